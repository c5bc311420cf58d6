/-
  Texts joined: RaftU2, RaftU3, RaftU5, RaftU6, RaftU4, RaftU7, RaftU8.
-/
import Derived.Test.YtbffmdhogehfnaaMRaftTakes7
/-
  The walk over raft.takeFault. (Written by ru2.py.)
-/
namespace Go.Proofs.Ytbffmdhogehfnaa
open Go.RowKit Go.Maps
set_option linter.unusedVariables false

theorem Blk.at2of3 (w : World) (o o2 : Obj) (t : TypeId) (xs : Array Value) : Blk (((w.alloc o).alloc o2).alloc (.cells xs t)) (w.heap.size + 1 + 1) t xs := by
  have := Blk.new ((w.alloc o).alloc o2) t xs
  simpa using this

set_option maxRecDepth 100000 in
set_option maxHeartbeats 4000000 in
theorem takeFault_any (x : Nd) (lv vv nv hv : Value) (m : Ml) (ev : Value) (w : World) (hx : RdNd w x lv vv nv hv) (hwf : ∀ v ∈ x.votes, WfI v) (he : RdG eE w ev m.ents) :
    Calls Try.prog 50 #[ndV x lv vv nv hv, mlV m ev] w fun e w' => e = .returned (flt (takF x m)) ∧ Below w.heap.size w w' := by
  have HX := hide hx
  have HEV := hide he
  obtain ⟨n, id, te, vo, lo, ro, co, vs, ns, hs⟩ := x
  obtain ⟨h1, h2, h3, h4⟩ := hx
  simp only at h1 h2 h3 h4
  obtain ⟨ao, cap, rfl, hc1, hc2⟩ := h1.shape
  obtain ⟨bo, cap2, rfl, hd1, hd2⟩ := h2.shape
  obtain ⟨no, cap3, rfl, _, _⟩ := h3.shape
  obtain ⟨ho, cap4, rfl, _, _⟩ := h4.shape
  obtain ⟨ki, fr, dt, mt, ma, mb, mc, es, ok⟩ := m
  simp only at he
  obtain ⟨eo, ec, rfl, he1, he2⟩ := he.shape
  have hA := below_alloc3 w (.cells #[.int .i64 n, .int .i64 id, .int .i64 te, .int .i64 vo, .slice ao lo.length cap, .int .i64 ro, .int .i64 co, .slice bo vs.length cap2, .slice no ns.length cap3, .slice ho hs.length cap4] 25) (.cells #[.int .i64 ki, .int .i64 fr, .int .i64 dt, .int .i64 mt, .int .i64 ma, .int .i64 mb, .int .i64 mc, .slice eo es.length ec, .bool ok] 44) (.cells #[.int .i64 0, .int .i64 0] 30)
  have HB := hide (Blk.at0of3 w (.cells #[.int .i64 ki, .int .i64 fr, .int .i64 dt, .int .i64 mt, .int .i64 ma, .int .i64 mb, .int .i64 mc, .slice eo es.length ec, .bool ok] 44) (.cells #[.int .i64 0, .int .i64 0] 30) 25 #[.int .i64 n, .int .i64 id, .int .i64 te, .int .i64 vo, .slice ao lo.length cap, .int .i64 ro, .int .i64 co, .slice bo vs.length cap2, .slice no ns.length cap3, .slice ho hs.length cap4])
  have HM := hide (Blk.at1of3 w (.cells #[.int .i64 n, .int .i64 id, .int .i64 te, .int .i64 vo, .slice ao lo.length cap, .int .i64 ro, .int .i64 co, .slice bo vs.length cap2, .slice no ns.length cap3, .slice ho hs.length cap4] 25) (.cells #[.int .i64 0, .int .i64 0] 30) 44 #[.int .i64 ki, .int .i64 fr, .int .i64 dt, .int .i64 mt, .int .i64 ma, .int .i64 mb, .int .i64 mc, .slice eo es.length ec, .bool ok])
  have HR := hide (Blk.at2of3 w (.cells #[.int .i64 n, .int .i64 id, .int .i64 te, .int .i64 vo, .slice ao lo.length cap, .int .i64 ro, .int .i64 co, .slice bo vs.length cap2, .slice no ns.length cap3, .slice ho hs.length cap4] 25) (.cells #[.int .i64 ki, .int .i64 fr, .int .i64 dt, .int .i64 mt, .int .i64 ma, .int .i64 mb, .int .i64 mc, .slice eo es.length ec, .bool ok] 44) 30 #[.int .i64 0, .int .i64 0])
  have HA := hide hA
  have HF : Hid (takF ⟨n, id, te, vo, lo, ro, co, vs, ns, hs⟩ ⟨ki, fr, dt, mt, ma, mb, mc, es, ok⟩ = if (chkN ⟨n, id, te, vo, lo, ro, co, vs, ns, hs⟩).1 ≠ 0 then chkN ⟨n, id, te, vo, lo, ro, co, vs, ns, hs⟩ else if sentB ⟨n, id, te, vo, lo, ro, co, vs, ns, hs⟩ ⟨ki, fr, dt, mt, ma, mb, mc, es, ok⟩ = false ∨ numsB ⟨ki, fr, dt, mt, ma, mb, mc, es, ok⟩ = false ∨ brgB ⟨ki, fr, dt, mt, ma, mb, mc, es, ok⟩ = false then (5, 0) else (0, 0)) := hide rfl
  have HZ1 := hide (chkN_z ⟨n, id, te, vo, lo, ro, co, vs, ns, hs⟩)
  have HFI := hide (fun h => (chkN_fine (x := ⟨n, id, te, vo, lo, ro, co, vs, ns, hs⟩) h))
  have HC1 := hide (RCheck_any ⟨n, id, te, vo, lo, ro, co, vs, ns, hs⟩ _ _ _ _ _ (HX.out.below hA) hwf)
  have HS1 := hide (fun W (hW : Below w.heap.size w W) h1 h2 => isSentTo_any ⟨n, id, te, vo, lo, ro, co, vs, ns, hs⟩ _ _ _ _ ⟨ki, fr, dt, mt, ma, mb, mc, es, ok⟩ _ W (HX.out.below hW) (HEV.out.below hW) h1 h2)
  have HS2 := hide (fun W (hW : Below w.heap.size w W) => areMailNumbers_any ⟨ki, fr, dt, mt, ma, mb, mc, es, ok⟩ _ W (HEV.out.below hW))
  have HS3 := hide (fun W (hW : Below w.heap.size w W) => areBrought_any ⟨ki, fr, dt, mt, ma, mb, mc, es, ok⟩ _ W (HEV.out.below hW))
  simp only at HS1
  have HN := hide (fun h => And.intro (HFI.out h).n1 (HFI.out h).n7)
  simp only at HN
  clear HFI
  generalize hK1 : chkN ⟨n, id, te, vo, lo, ro, co, vs, ns, hs⟩ = K1 at *
  generalize sentB ⟨n, id, te, vo, lo, ro, co, vs, ns, hs⟩ ⟨ki, fr, dt, mt, ma, mb, mc, es, ok⟩ = B1 at *
  generalize numsB ⟨ki, fr, dt, mt, ma, mb, mc, es, ok⟩ = B2 at *
  generalize brgB ⟨ki, fr, dt, mt, ma, mb, mc, es, ok⟩ = B3 at *
  obtain ⟨p, q⟩ := K1
  unfold ndV ndA at HC1
  unfold ndV ndA mlV mlA at HS1
  unfold mlV mlA at HS2 HS3
  unfold ndV ndA mlV mlA
  clear h1 h2 h3 h4 he hA hK1 HX HEV hwf
  go_enter Try.func50, Try.ntmps50
  go_wp2_with (refine wpList_load_blk HB.out Try.underlying25 rfl Try.sizeNode rfl rfl rfl ?_)
  refine HC1.out.mono ?_
  rintro e w1 ⟨rfl, hb⟩
  have hNN := below_allocG w1 (.cells #[.int .i64 p, .int .i64 q] 30)
  have HB1 := hide ((HB.out.later hb).later hNN)
  have HM1 := hide ((HM.out.later hb).later hNN)
  have HR1 := hide ((HR.out.later hb).later hNN)
  have hAA := HA.out.trans (hb.mono HA.out.size)
  have HA1 := hide (hAA.trans (hNN.mono hAA.size))
  clear hb hNN hAA
  unfold flt
  by_cases hp : p ≠ 0
  · have HE := hide (HF.out.trans (if_pos hp))
    have hq : (p == 0) = false := beq_eq_false_iff_ne.2 hp
    have hq2 : (p != 0) = true := by simp [hp]
    clear hp
    go_wp2_with (refine wpList_store_blk rfl rfl rfl rfl HR1.out rfl Try.sizeFaultR rfl ?_; intro w9 hR9 hg9; have HR9 := hide hR9; have HG9 := hide hg9; clear hR9 hg9)
    refine bodyPost_ret (results1_cell Try.results50 rfl (run_loadVar_blk HR9.out Try.underlying30 rfl Try.sizeFaultR)) rfl ?_
    exact ⟨by rw [HE.out] <;> rfl, below_grownO HA1.out HG9.out (fun k hk => by cases hk; omega) HA1.out.size⟩
  have HF1 := hide (HF.out.trans (if_neg hp))
  obtain rfl : p = 0 := Decidable.not_not.1 hp
  obtain rfl : q = 0 := by have := HZ1.out rfl; simpa using this
  have HNN := hide (HN.out rfl)
  have HS4 := hide (fun W (hW : Below w.heap.size w W) => HS1.out W hW (by have := HNN.out; omega) (by have := HNN.out; omega))
  clear hp HS1
  cases B1
  · have HE := hide (HF1.out.trans (if_pos (.inl rfl)))
    go_wp2_with (first
      | (refine wpList_load_blk HB1.out Try.underlying25 rfl Try.sizeNode rfl rfl rfl ?_)
      | (refine wpList_load_blk HM1.out Try.underlying44 rfl Try.sizeMail rfl rfl rfl ?_)
      | (go_at_call 70; refine (HS4.out _ HA1.out).mono ?_; rintro e w2 ⟨rfl, hb⟩; have HM2 := hide (HM1.out.later hb); have HR2 := hide (HR1.out.later hb); have HA2 := hide (HA1.out.trans (hb.mono HA1.out.size)); clear hb)
      | (refine wpList_store_blk rfl rfl rfl rfl HR2.out rfl Try.sizeFaultR rfl ?_; intro w9 hR9 hg9; have HR9 := hide hR9; have HG9 := hide hg9; clear hR9 hg9))
    refine bodyPost_ret (results1_cell Try.results50 rfl (run_loadVar_blk HR9.out Try.underlying30 rfl Try.sizeFaultR)) rfl ?_
    exact ⟨by rw [HE.out] <;> rfl, below_grownO HA2.out HG9.out (fun k hk => by cases hk; omega) HA2.out.size⟩
  cases B2
  · have HE := hide (HF1.out.trans (if_pos (.inr (.inl rfl))))
    go_wp2_with (first
      | (refine wpList_load_blk HB1.out Try.underlying25 rfl Try.sizeNode rfl rfl rfl ?_)
      | (refine wpList_load_blk HM1.out Try.underlying44 rfl Try.sizeMail rfl rfl rfl ?_)
      | (go_at_call 70; refine (HS4.out _ HA1.out).mono ?_; rintro e w2 ⟨rfl, hb⟩; have HM2 := hide (HM1.out.later hb); have HR2 := hide (HR1.out.later hb); have HA2 := hide (HA1.out.trans (hb.mono HA1.out.size)); clear hb)
      | (refine wpList_load_blkW HM2.out Try.underlying44 rfl Try.sizeMail rfl rfl rfl ?_)
      | (go_at_call 71; refine (HS2.out _ HA2.out).mono ?_; rintro e w3 ⟨rfl, hb⟩; have HM3 := hide (HM2.out.later hb); have HR3 := hide (HR2.out.later hb); have HA3 := hide (HA2.out.trans (hb.mono HA2.out.size)); clear hb)
      | (refine wpList_store_blk rfl rfl rfl rfl HR3.out rfl Try.sizeFaultR rfl ?_; intro w9 hR9 hg9; have HR9 := hide hR9; have HG9 := hide hg9; clear hR9 hg9))
    refine bodyPost_ret (results1_cell Try.results50 rfl (run_loadVar_blk HR9.out Try.underlying30 rfl Try.sizeFaultR)) rfl ?_
    exact ⟨by rw [HE.out] <;> rfl, below_grownO HA3.out HG9.out (fun k hk => by cases hk; omega) HA3.out.size⟩
  cases B3
  all_goals
    first
      | have HE := hide (HF1.out.trans (if_pos (.inr (.inr rfl))))
      | have HE := hide (HF1.out.trans (if_neg (by simp)))
    go_wp2_with (first
      | (refine wpList_load_blk HB1.out Try.underlying25 rfl Try.sizeNode rfl rfl rfl ?_)
      | (refine wpList_load_blk HM1.out Try.underlying44 rfl Try.sizeMail rfl rfl rfl ?_)
      | (go_at_call 70; refine (HS4.out _ HA1.out).mono ?_; rintro e w2 ⟨rfl, hb⟩; have HM2 := hide (HM1.out.later hb); have HR2 := hide (HR1.out.later hb); have HA2 := hide (HA1.out.trans (hb.mono HA1.out.size)); clear hb)
      | (refine wpList_load_blkW HM3.out Try.underlying44 rfl Try.sizeMail rfl rfl rfl ?_)
      | (refine wpList_load_blkW HM2.out Try.underlying44 rfl Try.sizeMail rfl rfl rfl ?_)
      | (go_at_call 71; refine (HS2.out _ HA2.out).mono ?_; rintro e w3 ⟨rfl, hb⟩; have HM3 := hide (HM2.out.later hb); have HR3 := hide (HR2.out.later hb); have HA3 := hide (HA2.out.trans (hb.mono HA2.out.size)); clear hb)
      | (go_at_call 72; refine (HS3.out _ HA3.out).mono ?_; rintro e w4 ⟨rfl, hb⟩; have HM4 := hide (HM3.out.later hb); have HR4 := hide (HR3.out.later hb); have HA4 := hide (HA3.out.trans (hb.mono HA3.out.size)); clear hb)
      | (refine wpList_store_blk rfl rfl rfl rfl HR4.out rfl Try.sizeFaultR rfl ?_; intro w9 hR9 hg9; have HR9 := hide hR9; have HG9 := hide hg9; clear hR9 hg9))
    refine bodyPost_ret (results1_cell Try.results50 rfl (run_loadVar_blk HR9.out Try.underlying30 rfl Try.sizeFaultR)) rfl ?_
    exact ⟨by rw [HE.out] <;> rfl, below_grownO HA4.out HG9.out (fun k hk => by cases hk; omega) HA4.out.size⟩

end Go.Proofs.Ytbffmdhogehfnaa

/-
  The walks over a node's hearOf, answer, and isNotOlder. (Written by ru3.py.)
-/
namespace Go.Proofs.Ytbffmdhogehfnaa
open Go.RowKit Go.Maps
set_option linter.unusedVariables false

set_option maxRecDepth 100000 in
set_option maxHeartbeats 4000000 in
theorem hearOf_any (B : Nat) (x : Nd) (t : Int) (lv vv nv hv : Value) (lab : Nat → Nat) (w : World) (hm : Nm w lab B x lv vv nv hv) :
    Calls Try.prog 73 #[.pointer (some ⟨B, 0, none⟩), .int .i64 t] w fun e w' => ∃ vv' nv' hv', e = .returned (.tuple #[]) ∧ Nm w' lab B (x.hear t) lv vv' nv' hv' ∧ Chg 0 w w' lab lab (fun i => i = 5) := by
  have HM := hide hm
  have HB := hide hm.blk
  have c2 := hm.blk.cell 2
  have cl := hm.blk.lt
  simp [ndA] at c2
  unfold ndA at HB
  have HE : Hid (x.hear t = if x.term < t then { x.follow with term := t, vote := 0 } else x) := hide rfl
  clear hm
  by_cases ht : x.term < t
  · have HF := hide (HE.out.trans (if_pos ht))
    have hd : decide (x.term < t) = true := decide_eq_true ht
    go_enter Try.func73, Try.ntmps73
    go_wp2_with (first
      | (refine wpList_store_int (k := 2) rfl rfl rfl rfl HB.out rfl Try.sizeIntR ?_; intro w2 hB2 hg2; have HB2 := hide hB2; have HG2 := hide hg2; clear hB2 hg2)
      | (refine wpList_store_int (k := 3) rfl rfl rfl rfl HB2.out rfl Try.sizeIntR ?_; intro w3 hB3 hg3; have HB3 := hide hB3; have HG3 := hide (grown_same HG2.out hg3); clear hB3 hg3))
    obtain ⟨hN4, hC4⟩ := HM.out.wrote (y := { x with term := t, vote := 0 }) HG3.out HB3.out rfl (.inl ⟨rfl, rfl⟩) (.inl ⟨rfl, rfl⟩) (.inl ⟨rfl, rfl⟩)
    refine (follow_any B { x with term := t, vote := 0 } _ _ _ _ lab w3 hN4).mono ?_
    rintro e w5 ⟨rfl, hN5, hC5⟩
    go_wp2_with fail
    refine bodyPost_end (v := .tuple #[]) (by simp [results, Try.results73]) rfl ?_
    rw [HF.out]
    exact ⟨_, _, _, rfl, hN5, hC4.trans hC5⟩
  · have HF := hide (HE.out.trans (if_neg ht))
    have hd : decide (x.term < t) = false := decide_eq_false ht
    go_enter Try.func73, Try.ntmps73
    go_wp2_with fail
    refine bodyPost_end (v := .tuple #[]) (by simp [results, Try.results73]) rfl ?_
    rw [HF.out]
    exact ⟨rfl, ⟨_, _, _, HM.out⟩, Chg.refl _ _ _ HM.out.ok⟩

set_option maxRecDepth 100000 in
set_option maxHeartbeats 4000000 in
theorem isNotOlder_any (v : Value) (l : List Et) (n t : Int) (w : World) (hv : RdG eE w v l) :
    Calls Try.prog 87 #[.int .i64 n, .int .i64 t, v] w fun e w' => e = .returned (.bool (notOldB l n t)) ∧ Below w.heap.size w w' := by
  have HV := hide hv
  have HO := hide (Older_any v l n t w hv)
  have HE : Hid (notOldB l n t = (oldR l n t || (decide (n = l.length) && decide (t = lastT l)))) := hide rfl
  obtain ⟨ao, cap, rfl, hc1, hc2⟩ := hv.shape
  generalize oldR l n t = R at HO HE
  generalize oldF l n t = K at HO
  obtain ⟨p, q⟩ := K
  unfold flt at HO
  unfold maxLen at hc2
  clear hv
  go_enter Try.func87, Try.ntmps87
  go_wp2_with fail
  refine HO.out.mono ?_
  rintro e w1 ⟨rfl, hb1⟩
  have hbx := hb1.trans ((below_allocG w1 (.cells #[.int .i64 p, .int .i64 q] 30)).mono hb1.size)
  have HB1 := hide hbx
  have HL := hide (fun W (h : Below w.heap.size w W) => rLast_any _ l W (HV.out.below h))
  clear hb1 hbx HO
  cases R
  · have HF := hide (HE.out.trans (Bool.false_or _))
    by_cases h1 : n = l.length
    · have hq : (n == (l.length : Int)) = true := by simp [h1]
      have HG := hide (show notOldB l n t = decide (t = lastT l) by rw [HF.out]; simp [h1])
      have HQ : Hid ((t == lastT l) = decide (t = lastT l)) := hide (by by_cases h : t = lastT l <;> simp [h])
      clear h1
      go_wp2_with (go_at_call 59; refine (HL.out _ HB1.out).mono ?_; rintro e w2 ⟨rfl, rfl⟩)
      go_ret
      exact ⟨by rw [HG.out, ← HQ.out]; rfl, HB1.out⟩
    · have hq : (n == (l.length : Int)) = false := by simp [h1]
      have HG := hide (show notOldB l n t = false by rw [HF.out]; simp [h1])
      clear h1
      go_wp2_with fail
      go_ret
      exact ⟨by rw [HG.out]; rfl, HB1.out⟩
  · have HF := hide (HE.out.trans (Bool.true_or _))
    go_wp2_with fail
    go_ret
    exact ⟨by rw [HF.out]; rfl, HB1.out⟩

theorem Try.sizeBoolR : (Try.prog.info? 4).map (·.size) = some 1 := by kernel_rfl

/-- One mail in new memory, without entries. -/
theorem OwM.one (W : World) (m : Ml) (hm : m.ents = []) (base : Nat) (hb : base ≤ W.heap.size) : OwM (W.alloc (.cells (mlA m (.slice none 0 0)) 44)) base (.slice (some ⟨W.heap.size, 0, none⟩) 1 1) [m] := by
  refine ⟨[⟨m, ⟨none, 0, 0⟩⟩], ?_, rfl, fun f hf => ?_⟩
  · exact ⟨rfl, .inr ⟨W.heap.size, 1, mlA m (.slice none 0 0), rfl, hb, heap_alloc_new W _, Nat.le_refl _, by decide, rfl, rfl⟩⟩
  · obtain rfl := List.mem_singleton.1 hf
    show (World.alloc _ _).ownsRow base _ 2 (.slice none 0 0) m.ents.length (eE.vs m.ents)
    rw [hm]
    exact World.ownsRow_nil _ _ _ _

set_option maxRecDepth 100000 in
set_option maxHeartbeats 4000000 in
theorem answer_any (B : Nat) (x : Nd) (lv vv nv hv : Value) (m : Ml) (ev : Value) (kind : Int) (ok : Bool) (a : Int) (w : World) (hm : Nr w B x lv vv nv hv) (he : RdG eE w ev m.ents) :
    Calls Try.prog 88 #[.pointer (some ⟨B, 0, none⟩), mlV m ev, .int .i64 kind, .bool ok, .int .i64 a] w fun e w' => ∃ mv, e = .returned mv ∧ OwM w' w.heap.size mv (ansM x m kind ok a) ∧ Below w.heap.size w w' := by
  obtain ⟨ki, fr, dt, mt, ma, mb, mc, es, mok⟩ := m
  simp only at he
  obtain ⟨eo, ec, rfl, he1, he2⟩ := he.shape
  have hW := below_allocG w (.cells #[.int .i64 ki, .int .i64 fr, .int .i64 dt, .int .i64 mt, .int .i64 ma, .int .i64 mb, .int .i64 mc, .slice eo es.length ec, .bool mok] 44)
  have hM := Blk.new w 44 #[.int .i64 ki, .int .i64 fr, .int .i64 dt, .int .i64 mt, .int .i64 ma, .int .i64 mb, .int .i64 mc, .slice eo es.length ec, .bool mok]
  have HML := hide (mail_any B x kind fr lv vv nv hv _ (hm.below hW))
  unfold mlA at HML
  have HW := hide hW
  have HE : Hid (ansM x ⟨ki, fr, dt, mt, ma, mb, mc, es, mok⟩ kind ok a = [⟨kind, x.id, fr, x.term, a, 0, 0, [], ok⟩]) := hide rfl
  unfold mlV mlA
  clear he hM hW hm
  go_enter Try.func88, Try.ntmps88
  go_wp2_with fail
  refine HML.out.mono ?_
  rintro e w1 ⟨rfl, hb1⟩
  have HB1 := hide (HW.out.trans (hb1.mono HW.out.size))
  have HK := hide (Blk.new w1 44 #[.int .i64 kind, .int .i64 x.id, .int .i64 fr, .int .i64 x.term, .int .i64 0, .int .i64 0, .int .i64 0, .slice none 0 0, .bool false])
  have hN := below_allocG w1 (.cells #[.int .i64 kind, .int .i64 x.id, .int .i64 fr, .int .i64 x.term, .int .i64 0, .int .i64 0, .int .i64 0, .slice none 0 0, .bool false] 44)
  have HB2 := hide (HB1.out.trans (hN.mono HB1.out.size))
  have hs1 := HB1.out.size
  clear hb1 hN HML
  go_wp2_with (first
    | (refine wpList_store_bool (k := 8) rfl rfl rfl rfl HK.out rfl Try.sizeBoolR ?_; intro w2 hK2 hg2; have HK2 := hide hK2; have HG2 := hide hg2; clear hK2 hg2)
    | (refine wpList_store_int (k := 4) rfl rfl rfl rfl HK2.out rfl Try.sizeIntR ?_; intro w3 hK3 hg3; have HK3 := hide hK3; have HG3 := hide (grown_same HG2.out hg3); clear hK3 hg3)
    | (refine wpList_load_blk HK3.out Try.underlying44 rfl Try.sizeMail rfl rfl rfl ?_))
  have hb3 := below_grownO HB2.out HG3.out (fun k hk => by cases hk; exact hs1) HB2.out.size
  go_ret
  rw [HE.out]
  exact ⟨_, rfl, OwM.one w3 ⟨kind, x.id, fr, x.term, a, 0, 0, [], ok⟩ rfl w.heap.size hb3.size, hb3.trans ((below_allocG w3 _).mono hb3.size)⟩

end Go.Proofs.Ytbffmdhogehfnaa

/-
  The walk over a node's takeAsking. (Written by ru5.py.)
-/
namespace Go.Proofs.Ytbffmdhogehfnaa
open Go.RowKit Go.Maps
set_option linter.unusedVariables false

set_option maxRecDepth 100000 in
set_option maxHeartbeats 8000000 in
theorem takeAsking_any (B : Nat) (x : Nd) (lv vv nv hv : Value) (m : Ml) (ev : Value) (lab : Nat → Nat) (w : World) (hm : Nm w lab B x lv vv nv hv) (he0 : Rd0 0 eE w lab ev m.ents) (hf0 : 0 ≤ m.frm) (hf7 : m.frm ≤ 1000) :
    Calls Try.prog 74 #[.pointer (some ⟨B, 0, none⟩), mlV m ev] w fun e w' => ∃ mv, e = .returned mv ∧ Nm w' lab B (t1N x m) lv vv nv hv ∧ OwM w' w.heap.size mv (t1M x m) ∧ Chg 0 w w' lab lab (fun i => i = 5) := by
  have HM := hide hm
  have HEV := hide he0
  have he := he0.1
  have hlr := hm.nr.rd.log
  have hB0 := hm.blk
  obtain ⟨n, id, te, vo, lo, ro, co, vs, ns, hs⟩ := x
  simp only at hlr
  obtain ⟨ao, cap, rfl, hc1, hc2⟩ := hlr.shape
  obtain ⟨ki, fr, dt, mt, ma, mb, mc, es, ok⟩ := m
  simp only at he
  obtain ⟨eo, ec, rfl, he1, he2⟩ := he.shape
  simp only at hf0 hf7
  have hW := below_allocG w (.cells #[.int .i64 ki, .int .i64 fr, .int .i64 dt, .int .i64 mt, .int .i64 ma, .int .i64 mb, .int .i64 mc, .slice eo es.length ec, .bool ok] 44)
  have HMB := hide (Blk.new w 44 #[.int .i64 ki, .int .i64 fr, .int .i64 dt, .int .i64 mt, .int .i64 ma, .int .i64 mb, .int .i64 mc, .slice eo es.length ec, .bool ok])
  have HW := hide hW
  have HNB := hide (hB0.later hW)
  have HLG := hide (hlr.below hW)
  have HGV : Hid (giveB ⟨n, id, te, vo, lo, ro, co, vs, ns, hs⟩ ⟨ki, fr, dt, mt, ma, mb, mc, es, ok⟩ = (decide (mt = te) && ((decide (vo = 0) || decide (vo = fr + 1)) && notOldB lo ma mb))) := hide rfl
  have HT1 : Hid (t1N ⟨n, id, te, vo, lo, ro, co, vs, ns, hs⟩ ⟨ki, fr, dt, mt, ma, mb, mc, es, ok⟩ = if giveB ⟨n, id, te, vo, lo, ro, co, vs, ns, hs⟩ ⟨ki, fr, dt, mt, ma, mb, mc, es, ok⟩ = true then { (⟨n, id, te, vo, lo, ro, co, vs, ns, hs⟩ : Nd) with vote := fr + 1 } else ⟨n, id, te, vo, lo, ro, co, vs, ns, hs⟩) := hide rfl
  have HT2 : Hid (t1M ⟨n, id, te, vo, lo, ro, co, vs, ns, hs⟩ ⟨ki, fr, dt, mt, ma, mb, mc, es, ok⟩ = ansM ⟨n, id, te, vo, lo, ro, co, vs, ns, hs⟩ ⟨ki, fr, dt, mt, ma, mb, mc, es, ok⟩ 2 (giveB ⟨n, id, te, vo, lo, ro, co, vs, ns, hs⟩ ⟨ki, fr, dt, mt, ma, mb, mc, es, ok⟩) 0) := hide rfl
  have hwf : IntKind.i64.wrap (fr + 1) = fr + 1 := by rw [IntKind.wrap_i64]; omega
  generalize hG : giveB ⟨n, id, te, vo, lo, ro, co, vs, ns, hs⟩ ⟨ki, fr, dt, mt, ma, mb, mc, es, ok⟩ = G at HGV HT1 HT2
  generalize t1N ⟨n, id, te, vo, lo, ro, co, vs, ns, hs⟩ ⟨ki, fr, dt, mt, ma, mb, mc, es, ok⟩ = T1 at HT1 ⊢
  generalize t1M ⟨n, id, te, vo, lo, ro, co, vs, ns, hs⟩ ⟨ki, fr, dt, mt, ma, mb, mc, es, ok⟩ = T2 at HT2 ⊢
  unfold mlV mlA
  clear he he0 hlr hB0 hm hG hW
  go_enter Try.func74, Try.ntmps74
  go_upto_region 1 with fail
  generalize hWA : w.alloc (.cells #[.int .i64 ki, .int .i64 fr, .int .i64 dt, .int .i64 mt, .int .i64 ma, .int .i64 mb, .int .i64 mc, .slice eo es.length ec, .bool ok] 44) = A at HW HMB HNB HLG ⊢
  clear hWA
  have p2 := HNB.out.cell 2
  have p3 := HNB.out.cell 3
  have p4 := HNB.out.cell 4
  have pl := HNB.out.lt
  have m1 := HMB.out.cell 1
  have m3 := HMB.out.cell 3
  have m4 := HMB.out.cell 4
  have m5 := HMB.out.cell 5
  have ml := HMB.out.lt
  simp [ndA] at p2 p3 p4
  simp at m1 m3 m4 m5
  try dsimp only [Act.put]
  go_cut [5] (fun y wc => y = .bool (decide (vo = 0) || decide (vo = fr + 1)) ∧ Below A.heap.size A wc)
  case first =>
    by_cases h0 : vo = 0
    · have hq : (vo == 0) = true := by simp [h0]
      have HQ := hide (show (decide (vo = 0) || decide (vo = fr + 1)) = true by simp [h0])
      clear h0
      go_quiet (fail)
      go_wp2_with fail
      go_meet
      case rel => exact ⟨by rw [HQ.out] <;> rfl, below_drewN (Below.refl _ _) _⟩
    have hq : (vo == 0) = false := by simp [h0]
    by_cases h1 : vo = fr + 1
    · have hq1 : (vo == fr + 1) = true := by simp [h1]
      have HQ := hide (show (decide (vo = 0) || decide (vo = fr + 1)) = true by simp [h1])
      clear h0 h1
      go_quiet (fail)
      go_wp2_with fail
      go_meet
      case rel => exact ⟨by rw [HQ.out] <;> rfl, below_drewN (Below.refl _ _) _⟩
    · have hq1 : (vo == fr + 1) = false := by simp [h1]
      have HQ := hide (show (decide (vo = 0) || decide (vo = fr + 1)) = false by simp [h0, h1])
      clear h0 h1
      go_quiet (fail)
      go_wp2_with fail
      go_meet
      case rel => exact ⟨by rw [HQ.out] <;> rfl, below_drewN (Below.refl _ _) _⟩
  case rest =>
  obtain ⟨rfl, hbc⟩ := hcut
  generalize (decide (vo = 0) || decide (vo = fr + 1)) = FR at HGV
  have HBC := hide hbc
  have HMC := hide (HMB.out.later hbc)
  have HNC := hide (HNB.out.later hbc)
  have HLC := hide (HLG.out.below hbc)
  clear p2 p3 p4 pl m1 m3 m4 m5 ml hbc HMB HNB HLG
  have p2 := HNC.out.cell 2
  have p4 := HNC.out.cell 4
  have pl := HNC.out.lt
  have m3 := HMC.out.cell 3
  have m4 := HMC.out.cell 4
  have m5 := HMC.out.cell 5
  have ml := HMC.out.lt
  simp [ndA] at p2 p4
  simp at m3 m4 m5
  have HKEEP : Hid (∀ W, Below wc.heap.size wc W → W.cell? ⟨w.heap.size, 3, none⟩ = some (.int .i64 mt) ∧ W.cell? ⟨w.heap.size, 4, none⟩ = some (.int .i64 ma) ∧ W.cell? ⟨w.heap.size, 5, none⟩ = some (.int .i64 mb) ∧ W.cell? ⟨B, 2, none⟩ = some (.int .i64 te) ∧ W.cell? ⟨B, 4, none⟩ = some (.slice ao lo.length cap)) := hide (fun W hW => ⟨(HMC.out.later hW).cell 3, (HMC.out.later hW).cell 4, (HMC.out.later hW).cell 5, (HNC.out.later hW).cell 2, (HNC.out.later hW).cell 4⟩)
  have HDR := hide (show Below wc.heap.size wc wc.drew from Below.drew (Below.refl _ _))
  have HNO := hide (isNotOlder_any _ lo ma mb wc.drew (HLC.out.below HDR.out))
  have HTA : Hid (∀ W, Below wc.drew.heap.size wc.drew W → Below wc.heap.size wc W) := hide fun W h => ⟨h.os, h.tape, h.output, h.size, h.block⟩
  go_upto_region 2 with fail
  try dsimp only [Act.put]
  go_cut [6] (fun y wd => y = .bool G ∧ Below wc.heap.size wc wd)
  case first =>
    by_cases h0 : mt = te
    case neg =>
      have hq : (mt == te) = false := by simp [h0]
      have HQ := hide (show G = false by rw [HGV.out]; simp [h0])
      clear h0
      go_quiet (fail)
      go_wp2_with fail
      go_meet
      case rel => exact ⟨by rw [HQ.out] <;> rfl, below_drewN (Below.refl _ _) _⟩
    have hq : (mt == te) = true := by simp [h0]
    have HQ0 := hide (show G = (FR && notOldB lo ma mb) by rw [HGV.out]; simp [h0])
    clear h0
    cases FR
    · have HQ := hide (HQ0.out.trans (Bool.false_and _))
      go_quiet (fail)
      go_wp2_with fail
      go_meet
      case rel => exact ⟨by rw [HQ.out] <;> rfl, below_drewN (Below.refl _ _) _⟩
    have HQ := hide (HQ0.out.trans (Bool.true_and _))
    generalize notOldB lo ma mb = NO at HQ HNO HGV HQ0
    clear HGV HQ0
    go_region_held3 (fun W => W.cell? ⟨w.heap.size, 3, none⟩ = some (.int .i64 mt) ∧ W.cell? ⟨w.heap.size, 4, none⟩ = some (.int .i64 ma) ∧ W.cell? ⟨w.heap.size, 5, none⟩ = some (.int .i64 mb) ∧ W.cell? ⟨B, 2, none⟩ = some (.int .i64 te) ∧ W.cell? ⟨B, 4, none⟩ = some (.slice ao lo.length cap)) (exact HKEEP.out _ (by go_grown)) (first
      | (go_at_call 87; refine HNO.out.mono ?_; rintro e w8 ⟨rfl, hb8⟩; have hbL1 := HTA.out _ hb8; clear hb8))
    all_goals
      go_wp2_with fail
      go_meet
      case rel => exact ⟨by rw [HQ.out] <;> rfl, hbL1⟩
  case rest =>
  obtain ⟨rfl, hbd⟩ := hcut
  have HBD := hide ((HW.out.trans (HBC.out.mono HW.out.size)).trans (hbd.mono (HW.out.trans (HBC.out.mono HW.out.size)).size))
  have HMD := hide (HMC.out.later hbd)
  clear p2 p4 pl m3 m4 m5 ml hbd HKEEP HDR HNO HTA HNC HLC HMC HGV
  have HND := hide (HM.out.below HBD.out)
  have HCD := hide (Chg.below (fun i => i = 5) HM.out.ok HBD.out)
  have hND := HND.out.blk
  have HNB := hide hND
  unfold ndA at HNB
  dsimp only at HNB
  have m1 := HMD.out.cell 1
  have ml := HMD.out.lt
  simp at m1
  clear hND
  cases G
  · have HE1 := hide (HT1.out.trans (if_neg (by simp)))
    have HA := hide (answer_any B ⟨n, id, te, vo, lo, ro, co, vs, ns, hs⟩ _ _ _ _ ⟨ki, fr, dt, mt, ma, mb, mc, es, ok⟩ _ 2 false 0 _ HND.out.nr (HEV.out.keep HCD.out (by omega)).1)
    unfold mlV mlA at HA
    dsimp only at HA
    go_wp2_with (refine wpList_load_blk HMD.out Try.underlying44 rfl Try.sizeMail rfl rfl rfl ?_)
    refine HA.out.mono ?_
    rintro e w8 ⟨mv, rfl, how, hb8⟩
    go_wp2_with fail
    go_ret
    rw [HE1.out, HT2.out]
    exact ⟨_, rfl, HND.out.below hb8, how.base HBD.out.size, HCD.out.trans (Chg.below _ HND.out.ok hb8)⟩
  · have HE1 := hide (HT1.out.trans (if_pos rfl))
    go_upto_region 5 with (refine wpList_store_int (k := 3) rfl rfl rfl rfl HNB.out rfl Try.sizeIntR ?_; intro w3 hB3 hg3; have HB3 := hide hB3; have HG3 := hide hg3; clear hB3 hg3)
    obtain ⟨hN4, hC4⟩ := HND.out.wrote (y := { (⟨n, id, te, vo, lo, ro, co, vs, ns, hs⟩ : Nd) with vote := fr + 1 }) HG3.out HB3.out rfl (.inl ⟨rfl, rfl⟩) (.inl ⟨rfl, rfl⟩) (.inl ⟨rfl, rfl⟩)
    have HN4 := hide hN4
    have HC4 := hide (HCD.out.trans hC4)
    have HM4 := hide (HMD.out.grown HG3.out (fun q => by cases q; exact absurd HM.out.blk.lt (Nat.lt_irrefl _)))
    have HE4 := hide ((HEV.out.keep HC4.out (by omega)).1)
    have HA := hide (answer_any B { (⟨n, id, te, vo, lo, ro, co, vs, ns, hs⟩ : Nd) with vote := fr + 1 } _ _ _ _ ⟨ki, fr, dt, mt, ma, mb, mc, es, ok⟩ _ 2 true 0 w3 hN4.nr HE4.out)
    unfold mlV mlA at HA
    dsimp only at HA
    clear hN4 hC4
    go_wp2_with (refine wpList_load_blk HM4.out Try.underlying44 rfl Try.sizeMail rfl rfl rfl ?_)
    refine HA.out.mono ?_
    rintro e w8 ⟨mv, rfl, how, hb8⟩
    go_wp2_with fail
    go_ret
    rw [HE1.out, HT2.out]
    exact ⟨_, rfl, HN4.out.below hb8, how.base (by have := HBD.out.size; have := HG3.out.size; omega), HC4.out.trans (Chg.below _ HN4.out.ok hb8)⟩

end Go.Proofs.Ytbffmdhogehfnaa

/-
  The walk over a node's takeVote. (Written by ru6.py.)
-/
namespace Go.Proofs.Ytbffmdhogehfnaa
open Go.RowKit Go.Maps
set_option linter.unusedVariables false

theorem elect_fix (x : Nd) (who : Int) : (x.elect who).n = x.n ∧ (x.elect who).id = x.id ∧ (x.elect who).log = x.log ∧ (x.elect who).term = x.term := by
  unfold Nd.elect
  split <;> exact ⟨rfl, rfl, rfl, rfl⟩

theorem elect_next {x : Nd} {who : Int} (hr : x.role = 1) (h : (x.elect who).role = 2) : (x.elect who).next = List.replicate x.n.toNat ((x.log.length : Int) + 1) := by
  unfold Nd.elect at h ⊢
  split
  · rfl
  · rename_i q
    rw [if_neg q] at h
    have : (x.voted who).role = x.role := rfl
    omega

set_option maxRecDepth 100000 in
set_option maxHeartbeats 8000000 in
theorem takeVote_any (B : Nat) (x : Nd) (lv vv nv hv : Value) (m : Ml) (ev : Value) (lab : Nat → Nat) (w : World) (hm : Nm w lab B x lv vv nv hv) (he0 : Rd0 0 eE w lab ev m.ents) (hn0 : 1 ≤ x.n) (hn7 : x.n ≤ 7) (hi0 : 0 ≤ x.id) (hin : x.id < x.n) (hll : x.log.length ≤ 1000) (hc0 : 0 ≤ x.com) (hvl : x.votes.length ≤ 1000) :
    Calls Try.prog 75 #[.pointer (some ⟨B, 0, none⟩), mlV m ev] w fun e w' => ∃ mv lab' vv' nv' hv', e = .returned mv ∧ Nm w' lab' B (t2N x m) lv vv' nv' hv' ∧ OwM w' w.heap.size mv (t2M x m) ∧ Chg 0 w w' lab lab' (fun i => i ≠ 0) := by
  have HM := hide hm
  have he := he0.1
  obtain ⟨X, hX⟩ : ∃ X, X = x := ⟨_, rfl⟩
  have HXX := hide hX
  have HEL := hide (fun a W l (h : Nm W l B x lv vv nv hv) => elect_any B x a lv vv nv hv l W h hn0 hn7 hi0 hin hll hc0 hvl)
  have HFX := hide (fun a => elect_fix x a)
  have HNX := hide (fun a h => @elect_next x a h)
  have HNU := hide (And.intro hn0 (And.intro hn7 hll))
  obtain ⟨ki, fr, dt, mt, ma, mb, mc, es, ok⟩ := m
  simp only at he
  obtain ⟨eo, ec, rfl, he1, he2⟩ := he.shape
  have hW := below_allocG w (.cells #[.int .i64 ki, .int .i64 fr, .int .i64 dt, .int .i64 mt, .int .i64 ma, .int .i64 mb, .int .i64 mc, .slice eo es.length ec, .bool ok] 44)
  have HMB := hide (Blk.new w 44 #[.int .i64 ki, .int .i64 fr, .int .i64 dt, .int .i64 mt, .int .i64 ma, .int .i64 mb, .int .i64 mc, .slice eo es.length ec, .bool ok])
  have HW := hide hW
  have HNB := hide (hm.blk.later hW)
  have HT1 : Hid (t2N x ⟨ki, fr, dt, mt, ma, mb, mc, es, ok⟩ = if x.role ≠ 1 ∨ mt ≠ x.term ∨ ok = false then x else x.elect fr) := hide rfl
  have HT2 : Hid (t2M x ⟨ki, fr, dt, mt, ma, mb, mc, es, ok⟩ = if x.role ≠ 1 ∨ mt ≠ x.term ∨ ok = false then [] else if (x.elect fr).role = 2 then (x.elect fr).beats else []) := hide rfl
  generalize t2N x ⟨ki, fr, dt, mt, ma, mb, mc, es, ok⟩ = T1 at HT1 ⊢
  generalize t2M x ⟨ki, fr, dt, mt, ma, mb, mc, es, ok⟩ = T2 at HT2 ⊢
  have HCC : Hid (∃ C : Bool, C = decide (x.role ≠ 1 ∨ mt ≠ x.term ∨ ok = false)) := hide ⟨_, rfl⟩
  obtain ⟨C, hC⟩ := HCC.out
  have HC := hide hC
  unfold mlV mlA
  clear he he0 hm hW hC HCC hn0 hn7 hi0 hin hll hc0 hvl hX
  go_enter Try.func75, Try.ntmps75
  go_upto_region 1 with fail
  generalize hWA : w.alloc (.cells #[.int .i64 ki, .int .i64 fr, .int .i64 dt, .int .i64 mt, .int .i64 ma, .int .i64 mb, .int .i64 mc, .slice eo es.length ec, .bool ok] 44) = A at HW HMB HNB ⊢
  clear hWA
  have p2 := HNB.out.cell 2
  have p5 := HNB.out.cell 5
  have pl := HNB.out.lt
  have m3 := HMB.out.cell 3
  have m8 := HMB.out.cell 8
  have ml := HMB.out.lt
  simp [ndA] at p2 p5
  simp at m3 m8
  try dsimp only [Act.put]
  go_cut [25] (fun y wc => y = .bool C ∧ Below A.heap.size A wc)
  case first =>
    by_cases h0 : x.role = 1
    case neg =>
      have hq : (x.role != 1) = true := by simp [h0]
      have HQ := hide (show C = true by rw [HC.out]; simp [h0])
      clear h0
      go_quiet (fail)
      go_wp2_with fail
      go_meet
      case rel => exact ⟨by rw [HQ.out] <;> rfl, below_drewN (Below.refl _ _) _⟩
    have hq : (x.role != 1) = false := by simp [h0]
    by_cases h1 : mt = x.term
    case neg =>
      have hq1 : (mt != x.term) = true := by simp [h1]
      have HQ := hide (show C = true by rw [HC.out]; simp [h1])
      clear h0 h1
      go_quiet (fail)
      go_wp2_with fail
      go_meet
      case rel => exact ⟨by rw [HQ.out] <;> rfl, below_drewN (Below.refl _ _) _⟩
    have hq1 : (mt != x.term) = false := by simp [h1]
    have HQ0 := hide (show C = !ok by rw [HC.out]; cases ok <;> simp [h0, h1])
    clear h0 h1
    cases ok
    all_goals
      go_quiet (fail)
      go_wp2_with fail
      go_meet
      case rel => exact ⟨by rw [HQ0.out] <;> rfl, below_drewN (Below.refl _ _) _⟩
  case rest =>
  obtain ⟨rfl, hbc⟩ := hcut
  have HBC := hide (HW.out.trans (hbc.mono HW.out.size))
  have HMC := hide (HMB.out.later hbc)
  have HNC := hide (HM.out.below HBC.out)
  have HCH := hide (Chg.below (fun i => i ≠ 0) HM.out.ok HBC.out)
  clear p2 p5 pl m3 m8 ml hbc HMB HNB
  by_cases hc : x.role ≠ 1 ∨ mt ≠ x.term ∨ ok = false
  · have HE1 := hide (HT1.out.trans (if_pos hc))
    have HE2 := hide (HT2.out.trans (if_pos hc))
    obtain rfl : C = true := by rw [HC.out]; exact decide_eq_true hc
    clear hc
    go_wp2_with fail
    go_ret
    rw [HE1.out, HE2.out]
    exact ⟨_, _, _, _, _, rfl, HNC.out, OwM.nil _ _, HCH.out⟩
  have HE1 := hide (HT1.out.trans (if_neg hc))
  have HE2 := hide (HT2.out.trans (if_neg hc))
  obtain rfl : C = false := by rw [HC.out]; exact decide_eq_false hc
  have HRO := hide (show x.role = 1 from Decidable.not_not.1 (fun q => hc (.inl q)))
  have m1 := HMC.out.cell 1
  have ml := HMC.out.lt
  simp at m1
  clear hc
  go_wp2_with fail
  refine (HEL.out fr _ _ HNC.out).mono ?_
  rintro e w3 ⟨lab3, vv3, nv3, hv3, rfl, hN3, hC3⟩
  have HN3 := hide hN3
  have HC3 := hide (HCH.out.trans hC3)
  have hB3 := hN3.blk
  have q5 := hB3.cell 5
  have ql := hB3.lt
  simp [ndA] at q5
  have HFE := hide (HFX.out fr)
  have HNE := hide (HNX.out fr HRO.out)
  have hz3 := HC3.out.size
  generalize hE : x.elect fr = E at *
  clear hN3 hC3 hB3 hE
  by_cases hr : E.role = 2
  · have hq : (E.role != 2) = false := by simp [hr]
    have HE3 := hide (HE2.out.trans (if_pos hr))
    have hnx := HNE.out hr
    have hnu := HNU.out
    obtain ⟨g1, g2, g3, g4⟩ := HFE.out
    have HBT := hide (beat_any B E lv vv3 nv3 hv3 w3 HN3.out.nr (by rw [g1]; omega) (by rw [g1]; omega) (by rw [g3]; omega) (by rw [hnx, g1, List.length_replicate]; omega) (fun u hu => by rw [hnx] at hu; have := List.eq_of_mem_replicate hu; rw [g3]; omega))
    clear hr hnx hnu g1 g2 g3 g4
    go_wp2_with fail
    refine HBT.out.mono ?_
    rintro e w4 ⟨v4, rfl, ho4, hb4⟩
    go_wp2_with fail
    go_ret
    rw [HE1.out, HE3.out]
    exact ⟨_, _, _, _, _, rfl, HN3.out.below hb4, ho4.base hz3, HC3.out.trans (Chg.below _ HN3.out.ok hb4)⟩
  · have hq : (E.role != 2) = true := by simp [hr]
    have HE3 := hide (HE2.out.trans (if_neg hr))
    clear hr
    go_wp2_with fail
    go_ret
    rw [HE1.out, HE3.out]
    exact ⟨_, _, _, _, _, rfl, HN3.out, OwM.nil _ _, HC3.out⟩

end Go.Proofs.Ytbffmdhogehfnaa

/-
  slices.Concat, entry.putBehind and entry.Put once more: what they answer is new memory of its own. (Written by ru4.py.)
-/
namespace Go.Proofs.Ytbffmdhogehfnaa
open Go.RowKit Go.Maps
set_option linter.unusedVariables false

set_option maxRecDepth 100000 in
set_option maxHeartbeats 2000000 in
theorem concatO_any (v : Value) (ls : List (List Et)) (w : World) (hv : RdLG eE w v ls) (hl : ls.flatten.length ≤ 100000) :
    Calls Try.prog 105 #[v] w fun e w' => ∃ v', e = .returned v' ∧ w'.ownsRow w.heap.size 65 2 v' ls.flatten.length (eE.vs ls.flatten) ∧ Below w.heap.size w w' := by
  obtain ⟨ao, cap, hvv, hc1, hc2⟩ := hv.shape
  subst hvv
  unfold maxLen at hc2
  go_enter Try.func105, Try.ntmps105
  go_wp2_with fail
  go_loop [3, 11] (fun sv iv => ∃ (j : Nat), j ≤ ls.length ∧ iv = .int .i64 j ∧ sv = .int .i64 ((ls.take j).flatten.length))
    (fun _ iv => ls.length - (intOf iv).toNat)
  case atStart => exact ⟨0, by omega, rfl, by simp⟩
  case round =>
    obtain ⟨j, hj, rfl, rfl⟩ := hrel
    have hle := flat_leE (ls := ls) j
    generalize hN : (ls.take j).flatten.length = N at *
    by_cases hlt : j < ls.length
    · obtain ⟨l, hx⟩ : ∃ x, ls[j]? = some x := ⟨_, List.getElem?_eq_getElem hlt⟩
      obtain ⟨b, off, u, rfl, hb, hc, hru⟩ := hv.here hx
      obtain ⟨uo, uc, huu, hu1, hu2⟩ := hru.shape
      subst huu
      have hk1 : (0 : Int) ≤ (j : Int) := by omega
      have hk2 : (j : Int) < (ls.length : Int) := by omega
      have hle2 := flat_leE (ls := ls) (j + 1)
      have HT := hide (show (ls.take (j + 1)).flatten.length = N + l.length by rw [take_flatE hx, List.length_append, hN])
      have hsm : N + l.length ≤ 100000 := by rw [← HT.out]; omega
      have hnn : ¬ ((N : Int) + (l.length : Int) < 0) := by omega
      clear hN hx hle hle2
      go_wp2_with fail
      go_round
      case rel => exact ⟨j + 1, by omega, by go_num, by rw [HT.out]; go_num⟩
      case measure => simp [intOf]; omega
    · have hje : j = ls.length := by omega
      subst hje
      rw [List.take_length] at hN
      have hN2 : N ≤ 1000000 := by omega
      have HN := hide hN
      clear hN hle
      go_wp2_with fail
      refine (growE_any N _ hN2).mono ?_
      rintro e w1 ⟨v1, rfl, hown1, hb1⟩
      obtain ⟨vo, vc, hvs⟩ : ∃ ao cap, v1 = .slice ao 0 cap := by
        rcases hown1.2 with ⟨rfl, hn⟩ | ⟨g, cap, cur, rfl, _⟩
        · exact ⟨none, 0, rfl⟩
        · exact ⟨_, _, rfl⟩
      subst hvs
      go_wp2_with fail
      go_loopw [6, 27] (fun sv iv wr => ∃ (j : Nat) (s : Value), j ≤ ls.length ∧ iv = .int .i64 j ∧ s = sv ∧ wr.ownsRow w.heap.size 65 2 s (ls.take j).flatten.length (eE.vs (ls.take j).flatten) ∧ Below w.heap.size w wr)
        (fun _ iv _ => ls.length - (intOf iv).toNat)
      case atStart => exact ⟨0, _, by omega, rfl, rfl, by simpa using hown1, hb1⟩
      case round =>
        obtain ⟨j, s, hj, rfl, rfl, hown, hbel⟩ := hrel
        have hle := flat_leE (ls := ls) j
        by_cases hlt : j < ls.length
        · obtain ⟨l, hx⟩ : ∃ x, ls[j]? = some x := ⟨_, List.getElem?_eq_getElem hlt⟩
          obtain ⟨b, off, u, rfl, hb, hc, hru⟩ := (hv.below hbel).here hx
          obtain ⟨uo, uc, huu, hu1, hu2⟩ := hru.shape
          subst huu
          have hk1 : (0 : Int) ≤ (j : Int) := by omega
          have hk2 : (j : Int) < (ls.length : Int) := by omega
          have hle2 := flat_leE (ls := ls) (j + 1)
          have HT := hide (take_flatE hx)
          rw [take_flatE hx, List.length_append] at hle2
          generalize (ls.take j).flatten = F at *
          obtain ⟨so, sc, hso⟩ : ∃ ao cap, s = .slice ao F.length cap := by
            rcases hown.2 with ⟨rfl, hn⟩ | ⟨g, cap, cur, rfl, _⟩
            · exact ⟨none, 0, by rw [hn]⟩
            · exact ⟨_, _, rfl⟩
          subst hso
          have h63 : F.length + l.length ≤ 1000000000 := by omega
          have hbs := hbel.size
          clear hx
          go_wp2_with (at_builtin; go_must (refine wpList_append_rdG hown hru Try.underlying22 infoEntry rfl rfl rfl rfl rfl h63 (by decide) hbs ?_); intro v2 w2 hown2 hb2 hg2; clear hg2)
          go_roundw
          case rel => exact ⟨j + 1, _, by omega, by go_num, rfl, by rw [HT.out, List.length_append]; exact hown2, hbel.trans hb2⟩
          case measure => simp [intOf]; omega
        · have hje : j = ls.length := by omega
          subst hje
          rw [List.take_length] at hown
          go_wp2_with fail
          go_ret
          exact ⟨_, rfl, hown, hbel⟩

set_option maxRecDepth 100000 in
set_option maxHeartbeats 2000000 in
theorem putBehindO_any (v o : Value) (l m : List Et) (k : Nat) (A : Int) (w : World) (hv : RdG eE w v l) (ho : RdG eE w o m) (hA : A = k) (hk : k ≤ l.length) (hl : l.length ≤ 1000) (hm : m.length ≤ 1000) :
    Calls Try.prog 97 #[v, .int .i64 A, o] w fun e w' => ∃ v', e = .returned v' ∧ w'.ownsRow w.heap.size 65 2 v' (putGo l k m).length (eE.vs (putGo l k m)) ∧ Below w.heap.size w w' := by
  have HV := hide hv
  have HO := hide ho
  obtain ⟨ao, cap, rfl, hc1, hc2⟩ := hv.shape
  obtain ⟨oo, oc, rfl, hc3, hc4⟩ := ho.shape
  subst hA
  unfold maxLen at hc2 hc4
  have HG0 : Hid (putGo l k m = putGo l k m) := hide rfl
  generalize hP : putGo l k m = P at HG0 ⊢
  have HP := hide hP
  clear hv ho hP
  go_enter Try.func97, Try.ntmps97
  go_wp2_with fail
  go_loopw [11] (fun iv wr => ∃ (j : Nat), j ≤ m.length ∧ iv = .int .i64 j ∧ k + j ≤ l.length ∧ putGo l (k + j) (m.drop j) = P ∧ Below w.heap.size w wr)
    (fun iv _ => m.length - (intOf iv).toNat)
  case atStart => exact ⟨0, by omega, rfl, by omega, HP.out, Below.refl _ _⟩
  case round =>
    obtain ⟨j, hj, rfl, hkj, hgo, hbr⟩ := hrel
    have HGO := hide hgo
    have HBR := hide hbr
    clear hgo
    by_cases hlt : j < m.length
    · obtain ⟨c, hc⟩ : ∃ c, m[j]? = some c := ⟨_, List.getElem?_eq_getElem hlt⟩
      have HD := hide (drop_consE hc)
      rw [HD.out, putGo] at HGO
      obtain ⟨b, off, rfl, hb, hat⟩ := HO.out.here hc
      obtain ⟨q0, q1⟩ := hat.ent
      have r0 := cell_belowG q0 hbr
      have r1 := cell_belowG q1 hbr
      have hb' : b < wr.heap.size := Nat.lt_of_lt_of_le hb hbr.size
      have hk1 : (0 : Int) ≤ (j : Int) := by omega
      have hk2 : (j : Int) < (m.length : Int) := by omega
      obtain ⟨t, x⟩ := c
      simp only at r0 r1 HGO
      have hbA := below_allocG wr (.cells #[.int .i64 t, .string x] 65)
      have hV1 := (HV.out.below hbr).below hbA
      have hO1 := (HO.out.below hbr).below hbA
      have HHAS := hide (has_any _ l (k + j + 1) ((k : Int) + (j : Int) + 1) t _ hV1 (by omega) (by omega))
      clear q0 q1 hat hc
      cases hh : hasE l (k + j + 1) t
      · have HE := hide (HGO.out.symm.trans (if_neg (by rw [hh]; simp)))
        rw [hh] at HHAS
        have hs1 := run_slice_uptoK (K := 2) (P := Try.prog) Try.underlying22 (by kernel_rfl) infoEntry ao l.length cap (k + j) ((k : Int) + (j : Int)) (by omega) (by omega)
        have hs2 := run_slice_fromK (K := 2) (P := Try.prog) Try.underlying22 (by kernel_rfl) infoEntry (some ⟨b, off, none⟩) m.length oc j j rfl hj
        have hr1 := hV1.upto (hi := k + j) hkj
        have hr2 := hO1.from (lo := j) hj
        obtain ⟨x1, hx1⟩ : ∃ x, Go.sliced ao 0 (k + j) cap 2 = x := ⟨_, rfl⟩
        obtain ⟨x2, hx2⟩ : ∃ x, Go.sliced (some ⟨b, off, none⟩) j m.length oc 2 = x := ⟨_, rfl⟩
        rw [hx1] at hs1 hr1
        rw [hx2] at hs2 hr2
        obtain ⟨y1, z1, hy1, _, _⟩ := hr1.shape
        obtain ⟨y2, z2, hy2, _, _⟩ := hr2.shape
        subst hy1 hy2
        have hll := RdLG.two (wr.alloc (.cells #[.int .i64 t, .string x] 65)).drew 22 hr1.drew hr2.drew
        have hsz : [l.take (k + j), m.drop j].flatten.length ≤ 100000 := by simp; omega
        have HLL := hide (concatO_any _ _ _ hll hsz)
        rw [show [l.take (k + j), m.drop j].flatten = P by rw [HE.out, HD.out]; simp] at HLL
        have hbs := hbr.size
        have HBA := hide (show Below w.heap.size w ((wr.alloc (.cells #[.int .i64 t, .string x] 65)).drew.alloc (.cells #[.slice y1 (l.take (k + j)).length z1, .slice y2 (m.drop j).length z2] 22)) by go_grown)
        have hwr : IntKind.i64.wrap ((k : Int) + (j : Int)) = (k : Int) + (j : Int) := by rw [IntKind.wrap_i64]; omega
        have hi0 : (0 : Int) ≤ (k : Int) + (j : Int) := by omega
        have hi1 : (k : Int) + (j : Int) ≤ (l.length : Int) := by omega
        have hi2 : (k : Int) + (j : Int) ≤ (cap : Int) := by omega
        have hi3 : (j : Int) ≤ (m.length : Int) := by omega
        clear hx1 hx2 hr1 hr2 hll hV1 hO1 hbA hsz hh hbr
        generalize l.take (k + j) = L1 at *
        generalize m.drop j = L2 at *
        go_wp2_with (go_at_call 96; refine HHAS.out.mono ?_; rintro e w2 ⟨rfl, rfl⟩)
        generalize hA : wr.alloc (.cells #[.int .i64 t, .string x] 65) = A at HLL HBA ⊢
        clear hA
        go_region_held3 (fun _ => True) (trivial) (first
          | (go_at_call 105; refine HLL.out.mono ?_; rintro e w2 ⟨v2, rfl, hr2, hb2⟩))
        all_goals
          go_wp2_with fail
          go_ret
          exact ⟨_, rfl, owns_baseR hr2 HBA.out.size, HBA.out.trans (hb2.mono HBA.out.size)⟩
      · have HE := hide (HGO.out.symm.trans (if_pos hh))
        have hle := hasE_le hh
        rw [hh] at HHAS
        clear hV1 hO1 hh hbr hbA
        go_wp2_with (go_at_call 96; refine HHAS.out.mono ?_; rintro e w2 ⟨rfl, rfl⟩)
        go_roundw
        case rel => exact ⟨j + 1, by omega, by go_num, by omega, HE.out.symm, HBR.out.trans ((below_allocG wr _).mono HBR.out.size)⟩
        case measure => simp [intOf]; omega
    · have hje : j = m.length := by omega
      subst hje
      rw [List.drop_length, putGo] at HGO
      have HC := hide (CloneE_any _ l _ (HV.out.below hbr) hl)
      clear hbr
      go_wp2_with fail
      refine HC.out.mono ?_
      rintro e w2 ⟨v2, rfl, ho2, hb2⟩
      go_wp2_with fail
      go_ret
      exact ⟨_, rfl, by rw [← HGO.out]; exact owns_baseR ho2 HBR.out.size, HBR.out.trans (hb2.mono HBR.out.size)⟩

set_option maxRecDepth 100000 in
set_option maxHeartbeats 4000000 in
theorem PutO_any (v u : Value) (l m : List Et) (n t : Int) (w : World) (hv : RdG eE w v l) (hu : RdG eE w u m) :
    Calls Try.prog 89 #[v, .int .i64 n, .int .i64 t, u] w fun e w' => ∃ v', e = .returned (.tuple #[v', .bool (putI l n t m), flt (putX l n t m)]) ∧ w'.ownsRow w.heap.size 65 2 v' (putL l n t m).length (eE.vs (putL l n t m)) ∧ Below w.heap.size w w' := by
  have HF1 : Hid (putL l n t m = if (ptF l n t m).1 ≠ 0 then [] else if hasE l n.toNat t = false then l else if (outF (putGo l n.toNat m)).1 ≠ 0 then [] else putGo l n.toNat m) := hide rfl
  have HF2 : Hid (putI l n t m = if (ptF l n t m).1 ≠ 0 then false else if hasE l n.toNat t = false then false else if (outF (putGo l n.toNat m)).1 ≠ 0 then false else true) := hide rfl
  have HF3 : Hid (putX l n t m = if (ptF l n t m).1 ≠ 0 then ptF l n t m else if hasE l n.toNat t = false then (0, 0) else outF (putGo l n.toNat m)) := hide rfl
  have HI := hide (putFault_any v u l m n t _ (hv.alloc (.cells #[.int .i64 0, .int .i64 0] 30)) (hu.alloc _))
  have HV := hide hv
  have HU := hide hu
  obtain ⟨ao, cap, rfl, _, _⟩ := hv.shape
  obtain ⟨bo, cbp, rfl, _, _⟩ := hu.shape
  have HR0 := hide (Blk.new w 30 #[.int .i64 0, .int .i64 0])
  have HB0 := hide (below_allocG w (.cells #[.int .i64 0, .int .i64 0] 30))
  have HZ := hide (ptF_z l n t m)
  have HOK := hide (fun h => ptF_ok (l := l) (n := n) (t := t) (m := m) h)
  generalize hK : ptF l n t m = K at *
  obtain ⟨x, y⟩ := K
  clear hv hK hu
  generalize putL l n t m = RL at *
  generalize putI l n t m = RI at *
  generalize putX l n t m = RX at *
  go_enter Try.func89, Try.ntmps89
  go_wp2_with fail
  refine HI.out.mono ?_
  rintro e w1 ⟨rfl, hb1⟩
  have HBW := hide ((HB0.out.trans (hb1.mono HB0.out.size)).trans ((below_allocG w1 (.cells #[.int .i64 x, .int .i64 y] 30)).mono (HB0.out.trans (hb1.mono HB0.out.size)).size))
  have HR := hide ((HR0.out.later hb1).later (below_allocG w1 (.cells #[.int .i64 x, .int .i64 y] 30)))
  have hrl := (HR0.out.later hb1).lt
  have HRw := hide (HR0.out.later hb1)
  have HBw := hide (HB0.out.trans (hb1.mono HB0.out.size))
  clear hb1 HI HR0 HB0
  unfold flt
  by_cases hx : x ≠ 0
  · have HE1 := hide (HF1.out.trans (if_pos hx))
    have HE2 := hide (HF2.out.trans (if_pos hx))
    have HE3 := hide (HF3.out.trans (if_pos hx))
    have hq : (x == 0) = false := beq_eq_false_iff_ne.2 hx
    have hq2 : (x != 0) = true := by simp [hx]
    clear hx
    have r0 := HRw.out.cell 0
    have r1 := HRw.out.cell 1
    have z0 := HRw.out.frozen 0
    have z1 := HRw.out.frozen 1
    simp at r0 r1
    go_wp2_with fail
    go_region
    have hbw := HBw.out
    go_wp2_with fail
    refine bodyPost_ret (v := .tuple #[.slice none 0 0, .bool false, .agg #[.int .i64 x, .int .i64 y]]) (results3_ttc Try.results89 rfl rfl rfl (run_loadVar_blk (xs := #[.int .i64 x, .int .i64 y]) (HRw.out.two) Try.underlying30 rfl Try.sizeFaultE)) rfl ?_
    exact ⟨_, by rw [HE2.out, HE3.out]; rfl, by rw [HE1.out]; exact World.ownsRow_nil _ _ _ _, by go_grown⟩
  · have HG1 := hide (HF1.out.trans (if_neg hx))
    have HG2 := hide (HF2.out.trans (if_neg hx))
    have HG3 := hide (HF3.out.trans (if_neg hx))
    obtain rfl : x = 0 := Decidable.not_not.1 hx
    obtain rfl : y = 0 := by have := HZ.out rfl; simpa using this
    obtain ⟨k1, k2, k3, k4⟩ := HOK.out rfl
    obtain ⟨n0, n1⟩ := numL_iff.1 k3
    have l1 := (chkE_fine k1).2
    have l2 := (chkE_fine k2).2
    have hnn : n = ((n.toNat : Nat) : Int) := by omega
    have hn2 : n.toNat ≤ 2000000000 := by omega
    clear hx HF1 HF2 HF3 HOK k1 k2 k3 k4
    generalize hN : n.toNat = N at *
    have HHAS := hide (has_any _ l N n t _ (HV.out.below HBW.out) hnn hn2)
    have HNN := hide hnn
    clear hnn hN n0 n1
    cases hh : hasE l N t
    · have HE1 := hide (HG1.out.trans (if_pos hh))
      have HE2 := hide (HG2.out.trans (if_pos hh))
      have HE3 := hide (HG3.out.trans (if_pos hh))
      rw [hh] at HHAS
      have HC := hide (CloneE_any _ l _ (HV.out.below HBW.out) (by omega))
      clear hh
      go_wp2_with (go_at_call 96; refine HHAS.out.mono ?_; rintro e w2 ⟨rfl, rfl⟩)
      refine HC.out.mono ?_
      rintro e w2 ⟨v2, rfl, ho2, hb2⟩
      obtain ⟨so, sc, rfl⟩ := owns_shapeE ho2
      have HO2 := hide ho2
      have HR2 := hide (HR.out.later hb2)
      have HB2 := hide (HBW.out.trans (hb2.mono HBW.out.size))
      clear ho2 hb2
      go_wp2_with (refine wpList_store_blk rfl rfl rfl rfl HR2.out rfl Try.sizeFaultE rfl ?_; intro w8 hR8 hg8; have HR8 := hide hR8; have HG8 := hide hg8; clear hR8 hg8)
      refine bodyPost_ret (v := .tuple #[.slice so l.length sc, .bool false, .agg #[.int .i64 0, .int .i64 0]]) (results3_ttc Try.results89 rfl rfl rfl (run_loadVar_blk HR8.out Try.underlying30 rfl Try.sizeFaultE)) rfl ?_
      exact ⟨_, by rw [HE2.out, HE3.out]; rfl, by rw [HE1.out]; exact owns_baseR (owns_grownO HO2.out HG8.out (.inr (owns_off HO2.out HR2.out (by decide)))) HBW.out.size, below_grownO HB2.out HG8.out (fun k hk => by cases hk; omega) HB2.out.size⟩
    · have HH1 := hide (HG1.out.trans (if_neg (by rw [hh]; simp)))
      have HH2 := hide (HG2.out.trans (if_neg (by rw [hh]; simp)))
      have HH3 := hide (HG3.out.trans (if_neg (by rw [hh]; simp)))
      have hle := hasE_le hh
      rw [hh] at HHAS
      have HPB := hide (putBehindO_any _ _ l m N n _ (HV.out.below HBW.out) (HU.out.below HBW.out) HNN.out hle (by omega) (by omega))
      have HZ2 := hide (outF_z (putGo l N m))
      have HOF := hide (fun V W (h : RdG eE W V (putGo l N m)) => outFault_any V _ W h)
      generalize putGo l N m = PG at *
      generalize hO : outF PG = O at *
      obtain ⟨p, q⟩ := O
      clear hh hO
      go_wp2_with (go_at_call 96; refine HHAS.out.mono ?_; rintro e w2 ⟨rfl, rfl⟩)
      refine HPB.out.mono ?_
      rintro e w2 ⟨v2, rfl, hr2, hb2⟩
      obtain ⟨so, sc, hso⟩ := owns_shapeE hr2
      subst hso
      have HOW2 := hide (owns_baseR hr2 HBW.out.size)
      have HRD2 := hide (RdG.ofOwns hr2)
      have HR2 := hide (HR.out.later hb2)
      have HB2 := hide (HBW.out.trans (hb2.mono HBW.out.size))
      clear hr2 hb2
      go_wp2_with fail
      refine (HOF.out _ _ HRD2.out).mono ?_
      rintro e w3 ⟨rfl, hb3⟩
      have HRD3 := hide (owns_later HOW2.out hb3)
      have HR3 := hide (HR2.out.later hb3)
      have HB3 := hide (HB2.out.trans (hb3.mono HB2.out.size))
      have hrl3 := HR3.out.lt
      clear hb3 HRD2 HR2 HB2
      unfold flt
      by_cases hp : p ≠ 0
      · have HE1 := hide (HH1.out.trans (if_pos hp))
        have HE2 := hide (HH2.out.trans (if_pos hp))
        have hq : (p == 0) = false := beq_eq_false_iff_ne.2 hp
        have hq2 : (p != 0) = true := by simp [hp]
        clear hp
        have r0 := HR3.out.cell 0
        have r1 := HR3.out.cell 1
        have z0 := HR3.out.frozen 0
        have z1 := HR3.out.frozen 1
        simp at r0 r1
        go_wp2_with fail
        go_region
        have hbw := HB3.out
        go_wp2_with fail
        refine bodyPost_ret (v := .tuple #[.slice none 0 0, .bool false, .agg #[.int .i64 p, .int .i64 q]]) (results3_ttc Try.results89 rfl rfl rfl (run_loadVar_blk (xs := #[.int .i64 p, .int .i64 q]) (HR3.out.two) Try.underlying30 rfl Try.sizeFaultE)) rfl ?_
        exact ⟨_, by rw [HE2.out, HH3.out]; rfl, by rw [HE1.out]; exact World.ownsRow_nil _ _ _ _, by go_grown⟩
      · have HE1 := hide (HH1.out.trans (if_neg hp))
        have HE2 := hide (HH2.out.trans (if_neg hp))
        obtain rfl : p = 0 := Decidable.not_not.1 hp
        obtain rfl : q = 0 := by have := HZ2.out rfl; simpa using this
        have HR4 := hide (HR3.out.later (below_allocG w3 (.cells #[.int .i64 0, .int .i64 0] 30)))
        have HB4 := hide (HB3.out.trans ((below_allocG w3 (.cells #[.int .i64 0, .int .i64 0] 30)).mono HB3.out.size))
        have HRD4 := hide (owns_later HRD3.out (below_allocG w3 (.cells #[.int .i64 0, .int .i64 0] 30)))
        clear hp
        go_wp2_with (refine wpList_store_blk rfl rfl rfl rfl HR4.out rfl Try.sizeFaultE rfl ?_; intro w8 hR8 hg8; have HR8 := hide hR8; have HG8 := hide hg8; clear hR8 hg8)
        refine bodyPost_ret (v := .tuple #[.slice so PG.length sc, .bool true, .agg #[.int .i64 0, .int .i64 0]]) (results3_ttc Try.results89 rfl rfl rfl (run_loadVar_blk HR8.out Try.underlying30 rfl Try.sizeFaultE)) rfl ?_
        refine ⟨_, by rw [HE2.out, HH3.out]; rfl, ?_, below_grownO HB4.out HG8.out (fun k hk => by cases hk; omega) HB4.out.size⟩
        rw [HE1.out]
        exact owns_grownO HRD4.out HG8.out (.inr (owns_off HRD4.out HR4.out (by decide)))

end Go.Proofs.Ytbffmdhogehfnaa

/-
  The walks over slices.Equal of entries and raft.beginsWith. (Written by ru7.py.)
-/
namespace Go.Proofs.Ytbffmdhogehfnaa
open Go.RowKit Go.Maps
set_option linter.unusedVariables false

theorem take_snocE {l : List Et} {j : Nat} {c : Et} (h : l[j]? = some c) : l.take (j + 1) = l.take j ++ [c] := by
  rw [List.take_add_one, h]
  rfl

theorem ba_inj {a b : ByteArray} (h : a.toList = b.toList) : a = b := by
  rw [ByteArray.toList_eq, ByteArray.toList_eq] at h
  exact ByteArray.ext (Array.toList_inj.mp h)

set_option maxRecDepth 100000 in
set_option maxHeartbeats 4000000 in
theorem EqualE_any (u v : Value) (a b : List Et) (w : World) (hu : RdG eE w u a) (hv : RdG eE w v b) :
    Calls Try.prog 99 #[u, v] w fun e w' => e = .returned (.bool (decide (a = b))) ∧ Below w.heap.size w w' := by
  have HU := hide hu
  have HV := hide hv
  obtain ⟨ao, cap, rfl, hc1, hc2⟩ := hu.shape
  obtain ⟨bo, cap2, rfl, hd1, hd2⟩ := hv.shape
  unfold maxLen at hc2 hd2
  have HD : Hid (∃ D : Bool, D = decide (a = b)) := hide ⟨_, rfl⟩
  obtain ⟨D, hD⟩ := HD.out
  rw [← hD]
  have HDD := hide hD
  clear hu hv hD HD
  go_enter Try.func99, Try.ntmps99
  by_cases hl : a.length = b.length
  case neg =>
    have hq : ((a.length : Int) != (b.length : Int)) = true := by simp; omega
    obtain rfl : D = false := by rw [HDD.out]; exact decide_eq_false (fun q => hl (by rw [q]))
    clear hl
    go_wp2_with fail
    go_ret
    exact ⟨rfl, Below.refl _ _⟩
  have hq : ((a.length : Int) != (b.length : Int)) = false := by simp; omega
  have HL := hide hl
  clear hl
  go_wp2_with fail
  go_loopw [13] (fun iv wr => ∃ (j : Nat), j ≤ a.length ∧ iv = .int .i64 j ∧ a.take j = b.take j ∧ Below w.heap.size w wr)
    (fun iv _ => a.length - (intOf iv).toNat)
  case atStart => exact ⟨0, by omega, rfl, by simp, Below.refl _ _⟩
  case round =>
    obtain ⟨j, hj, rfl, htk, hbr⟩ := hrel
    have HTK := hide htk
    have HBR := hide hbr
    clear htk
    by_cases hlt : j < a.length
    · have hlt2 : j < b.length := by have := HL.out; omega
      obtain ⟨c, hc⟩ : ∃ c, a[j]? = some c := ⟨_, List.getElem?_eq_getElem hlt⟩
      obtain ⟨d, hd⟩ : ∃ c, b[j]? = some c := ⟨_, List.getElem?_eq_getElem hlt2⟩
      have HC := hide hc
      have HDd := hide hd
      obtain ⟨g1, o1, rfl, hg1, hat1⟩ := (HU.out.below hbr).here hc
      obtain ⟨g2, o2, rfl, hg2, hat2⟩ := (HV.out.below hbr).here hd
      obtain ⟨p0, p1⟩ := hat1.ent
      obtain ⟨r0, r1⟩ := hat2.ent
      have hk1 : (0 : Int) ≤ (j : Int) := by omega
      have hk2 : (j : Int) < (a.length : Int) := by omega
      have hk3 : (j : Int) < (b.length : Int) := by omega
      clear hat1 hat2 hc hd hbr
      obtain ⟨ct, cx⟩ := c
      obtain ⟨dt, dx⟩ := d
      simp only at p0 p1 r0 r1
      by_cases h1 : ct = dt
      · have hq1 : (ct == dt) = true := by simp [h1]
        have HCT := hide h1
        clear h1
        by_cases h2 : cx = dx
        · have HCX := hide h2
          have hq2 : (cx.toList == dx.toList) = true := by simp [h2]
          clear h2
          go_wp2_with fail
          go_quiet (fail)
          go_wp2_with fail
          go_roundw
          case rel => exact ⟨j + 1, by omega, by go_num, by rw [take_snocE HC.out, take_snocE HDd.out, HTK.out, HCT.out, HCX.out], below_drewN HBR.out _⟩
          case measure => simp [intOf]; omega
        · have HCX := hide h2
          have hq2 : (cx.toList == dx.toList) = false := beq_eq_false_iff_ne.2 (fun q => h2 (ba_inj q))
          obtain rfl : D = false := by rw [HDD.out]; exact decide_eq_false (fun q => h2 (by have h8 := HC.out; have h9 := HDd.out; rw [q, h9] at h8; cases h8; rfl))
          clear h2
          go_wp2_with fail
          go_quiet (fail)
          go_wp2_with fail
          go_ret
          exact ⟨rfl, below_drewN HBR.out _⟩
      · have hq1 : (ct == dt) = false := by simp [h1]
        obtain rfl : D = false := by rw [HDD.out]; exact decide_eq_false (fun q => h1 (by have h8 := HC.out; have h9 := HDd.out; rw [q, h9] at h8; cases h8; rfl))
        clear h1
        go_wp2_with fail
        go_quiet (fail)
        go_wp2_with fail
        go_ret
        exact ⟨rfl, below_drewN HBR.out _⟩
    · have hje : j = a.length := by omega
      subst hje
      obtain rfl : D = true := by
        rw [HDD.out]
        refine decide_eq_true ?_
        have := HTK.out
        rw [List.take_length, HL.out, List.take_length] at this
        exact this
      clear hbr
      go_wp2_with fail
      go_ret
      exact ⟨rfl, HBR.out⟩

set_option maxRecDepth 100000 in
set_option maxHeartbeats 4000000 in
theorem beginsWith_any (u v : Value) (l a : List Et) (w : World) (hu : RdG eE w u l) (hv : RdG eE w v a) :
    Calls Try.prog 90 #[u, v] w fun e w' => e = .returned (.bool (begB l a)) ∧ Below w.heap.size w w' := by
  have HU := hide hu
  have HV := hide hv
  obtain ⟨ao, cap, rfl, hc1, hc2⟩ := hu.shape
  obtain ⟨bo, cap2, rfl, hd1, hd2⟩ := hv.shape
  unfold maxLen at hc2 hd2
  have HE : Hid (begB l a = (decide (a.length ≤ l.length) && decide (l.take a.length = a))) := hide rfl
  clear hu hv
  go_enter Try.func90, Try.ntmps90
  by_cases hl : a.length ≤ l.length
  · have hq : decide ((a.length : Int) ≤ (l.length : Int)) = true := decide_eq_true (by omega)
    have HF := hide (show begB l a = decide (l.take a.length = a) by rw [HE.out]; simp [hl])
    have hs1 := run_slice_uptoK (K := 2) (P := Try.prog) Try.underlying22 (by kernel_rfl) infoEntry ao l.length cap a.length (a.length : Int) rfl (by omega)
    have hr1 := HU.out.upto (hi := a.length) hl
    obtain ⟨x1, hx1⟩ : ∃ x, Go.sliced ao 0 a.length cap 2 = x := ⟨_, rfl⟩
    rw [hx1] at hs1 hr1
    obtain ⟨y1, z1, hy1, _, _⟩ := hr1.shape
    subst hy1
    have HQ := hide (fun W (h : Below w.heap.size w W) => EqualE_any _ _ _ _ W (hr1.below h) (HV.out.below h))
    have hi0 : (0 : Int) ≤ (a.length : Int) := by omega
    have hi1 : (a.length : Int) ≤ (l.length : Int) := by omega
    have hi2 : (a.length : Int) ≤ (cap : Int) := by omega
    clear hx1 hr1 hl
    generalize decide (l.take a.length = a) = G at HF HQ
    generalize hLT : l.take a.length = LT at *
    clear hLT
    go_wp2_with (go_at_call 99; refine (HQ.out _ (Below.refl _ _)).mono ?_; rintro e w2 ⟨rfl, hb2⟩)
    go_ret
    exact ⟨by rw [HF.out] <;> rfl, hb2⟩
  · have hq : decide ((a.length : Int) ≤ (l.length : Int)) = false := decide_eq_false (by omega)
    have hqn : decide (a.length ≤ l.length) = false := decide_eq_false hl
    have HF := hide (show begB l a = false by rw [HE.out, hqn]; rfl)
    clear hl
    go_wp2_with fail
    go_ret
    exact ⟨by rw [HF.out] <;> rfl, Below.refl _ _⟩

end Go.Proofs.Ytbffmdhogehfnaa

/-
  The walk over a node's takeEntries. (Written by ru8.py.)
-/
namespace Go.Proofs.Ytbffmdhogehfnaa
open Go.RowKit Go.Maps
set_option linter.unusedVariables false

/-- A new log of its own, and another Commit. -/
theorem Nm.newLog {w w5 w6 : World} {lab : Nat → Nat} {B : Nat} {y : Nd} {lv vv nv hv v5 : Value} {l : List Et} {c : Int} (h : Nm w lab B y lv vv nv hv) (hb : Below w.heap.size w w5) (ho : w5.ownsRow w.heap.size 65 2 v5 l.length (eE.vs l)) (hg6 : w5.grownBy w6 (some B)) (hB : Blk w6 B 52 (ndA { y with log := l, com := c } v5 vv nv hv)) :
    Nm w6 (labTo lab v5.ownBlock 1) B { y with log := l, com := c } v5 vv nv hv ∧ Chg 0 w w6 lab (labTo lab v5.ownBlock 1) (fun i => i = 5) := by
  have hlt := ho.lt
  have hB5 : labTo lab v5.ownBlock 1 B = 5 := by
    unfold labTo
    rw [if_neg (fun q => by have := (hlt B q).1; have := h.blk.lt; omega)]
    exact h.lb
  have hc1 : Chg 0 w w5 lab (labTo lab v5.ownBlock 1) (fun i => i = 5) := by
    refine ⟨hb.os, hb.tape, hb.output, hb.size, fun k hk _ => hb.block k hk, fun k hk => ?_, fun g hg => ?_⟩
    · unfold labTo
      rw [if_neg (fun q => by have := (hlt k q).1; omega)]
    · unfold labTo
      rw [if_neg (fun q => by have := (hlt g q).2; omega)]
      exact h.ok g (by have := hb.size; omega)
  have hc2 : Chg 0 w5 w6 (labTo lab v5.ownBlock 1) (labTo lab v5.ownBlock 1) (fun i => i = 5) := Chg.grown hc1.ok hg6 hB5
  have hc := hc1.trans hc2
  refine ⟨⟨hB, hB5, ?_, h.vot.keep hc (by omega), h.nxt.keep hc (by omega), h.hav.keep hc (by omega), hc.ok⟩, hc⟩
  exact (Row.grew (owns_baseR ho (Nat.zero_le _)) : Row w5 (labTo lab v5.ownBlock 1) 1 _ _ _ _ _).keep hc2 (by omega)

theorem putX_z (l : List Et) (n t : Int) (m : List Et) : Fz (putX l n t m) := by
  unfold putX
  split
  · exact ptF_z l n t m
  · split
    · intro _; rfl
    · exact outF_z _

theorem fault_set {w1 w2 : World} {Fb C base : Nat} {p q : Int} {v : Value} {n : Nat} {xs : List Value} (hF : Blk w2 Fb 30 #[.int .i64 0, .int .i64 0]) (ho : w2.ownsRow base 65 2 v n xs) (hb : Below C w1 w2) (hC : C ≤ Fb) :
    Blk ((w2.setCell ⟨Fb, 0, none⟩ (.int .i64 p)).setCell ⟨Fb, 1, none⟩ (.int .i64 q)) Fb 30 #[.int .i64 p, .int .i64 q] ∧ ((w2.setCell ⟨Fb, 0, none⟩ (.int .i64 p)).setCell ⟨Fb, 1, none⟩ (.int .i64 q)).ownsRow base 65 2 v n xs ∧ Below C w1 ((w2.setCell ⟨Fb, 0, none⟩ (.int .i64 p)).setCell ⟨Fb, 1, none⟩ (.int .i64 q)) := by
  have g := grown_same (grown_setCell w2 Fb 0 (.int .i64 p)) (grown_setCell _ Fb 1 (.int .i64 q))
  have hlt := hF.lt
  exact ⟨(hF.set 0 _).set 1 _, owns_grownO ho g (.inr (owns_off ho hF (by decide))), below_grownO hb g (fun k hk => by cases hk; exact hC) (by omega)⟩

/-- What a mail that is taken comes to. -/
def TkTo (w : World) (lab : Nat → Nat) (B : Nat) (y : Nd) (ms : List Ml) (e : Ending) (w' : World) : Prop :=
  ∃ mv lab' lv' vv' nv' hv', e = .returned mv ∧ Nm w' lab' B y lv' vv' nv' hv' ∧ OwM w' w.heap.size mv ms ∧ Chg 0 w w' lab lab' (fun i => i ≠ 0)

set_option maxRecDepth 100000 in
set_option maxHeartbeats 16000000 in
theorem takeEntries_any (B : Nat) (x : Nd) (lv vv nv hv : Value) (m : Ml) (ev : Value) (lab : Nat → Nat) (w : World) (hm : Nm w lab B x lv vv nv hv) (he0 : Rd0 0 eE w lab ev m.ents) (ha0 : 0 ≤ m.a) (ha1 : m.a ≤ 1000000000) (hc0 : 0 ≤ m.c) (hc1 : m.c ≤ 1000000000) (hel : m.ents.length ≤ 1000) (hll : x.log.length ≤ 1000) (hco : 0 ≤ x.com) (hcl : x.com ≤ x.log.length) :
    Calls Try.prog 76 #[.pointer (some ⟨B, 0, none⟩), mlV m ev] w fun e w' => TkTo w lab B (t3N x m) (t3M x m) e w' := by
  have HM := hide hm
  have HEV := hide he0
  have he := he0.1
  have hlr := hm.nr.rd.log
  have hB0 := hm.blk
  have HFO := hide (fun W (h : Nm W lab B x lv vv nv hv) => follow_any B x lv vv nv hv lab W h)
  have HANS := hide (fun W ok a (h : Nr W B x lv vv nv hv) (h2 : RdG eE W ev m.ents) => answer_any B x lv vv nv hv m ev 4 ok a W h h2)
  obtain ⟨n, id, te, vo, lo, ro, co, vs, ns, hs⟩ := x
  simp only at hlr
  obtain ⟨ao, cap, hlv, hk1, hk2⟩ := hlr.shape
  subst hlv
  obtain ⟨ki, fr, dt, mt, ma, mb, mc, es, ok⟩ := m
  simp only at he
  obtain ⟨eo, ec, rfl, he1, he2⟩ := he.shape
  simp only at ha0 ha1 hc0 hc1 hel hll hco hcl
  unfold maxLen at hk2 he2
  have hW := below_allocG w (.cells #[.int .i64 ki, .int .i64 fr, .int .i64 dt, .int .i64 mt, .int .i64 ma, .int .i64 mb, .int .i64 mc, .slice eo es.length ec, .bool ok] 44)
  have HMB := hide (Blk.new w 44 #[.int .i64 ki, .int .i64 fr, .int .i64 dt, .int .i64 mt, .int .i64 ma, .int .i64 mb, .int .i64 mc, .slice eo es.length ec, .bool ok])
  have HW := hide hW
  have HNB := hide (hB0.later hW)
  have HT3 : Hid (t3K ⟨n, id, te, vo, lo, ro, co, vs, ns, hs⟩ ⟨ki, fr, dt, mt, ma, mb, mc, es, ok⟩ = if mt < te then .old else if ro = 2 then .leads else if (putX lo ma mb es).1 ≠ 0 then .none else if begB (putL lo ma mb es) (lo.take co.toNat) = false then .none else if putI lo ma mb es = false then .no else .yes) := hide rfl
  have HTN : Hid (t3N ⟨n, id, te, vo, lo, ro, co, vs, ns, hs⟩ ⟨ki, fr, dt, mt, ma, mb, mc, es, ok⟩ = match t3K ⟨n, id, te, vo, lo, ro, co, vs, ns, hs⟩ ⟨ki, fr, dt, mt, ma, mb, mc, es, ok⟩ with
    | .old => ⟨n, id, te, vo, lo, ro, co, vs, ns, hs⟩ | .leads => ⟨n, id, te, vo, lo, ro, co, vs, ns, hs⟩ | .none => ⟨n, id, te, vo, lo, 0, co, [], [], []⟩ | .no => ⟨n, id, te, vo, lo, 0, co, [], [], []⟩
    | .yes => ⟨n, id, te, vo, putL lo ma mb es, 0, max co (min mc (ma + es.length)), [], [], []⟩) := hide rfl
  have HTM : Hid (t3M ⟨n, id, te, vo, lo, ro, co, vs, ns, hs⟩ ⟨ki, fr, dt, mt, ma, mb, mc, es, ok⟩ = match t3K ⟨n, id, te, vo, lo, ro, co, vs, ns, hs⟩ ⟨ki, fr, dt, mt, ma, mb, mc, es, ok⟩ with
    | .old => ansM ⟨n, id, te, vo, lo, ro, co, vs, ns, hs⟩ ⟨ki, fr, dt, mt, ma, mb, mc, es, ok⟩ 4 false 0 | .leads => [] | .none => []
    | .no => ansM ⟨n, id, te, vo, lo, ro, co, vs, ns, hs⟩ ⟨ki, fr, dt, mt, ma, mb, mc, es, ok⟩ 4 false (max 0 (min (ma - 1) lo.length))
    | .yes => ansM ⟨n, id, te, vo, lo, ro, co, vs, ns, hs⟩ ⟨ki, fr, dt, mt, ma, mb, mc, es, ok⟩ 4 true (ma + es.length)) := hide rfl
  generalize t3K ⟨n, id, te, vo, lo, ro, co, vs, ns, hs⟩ ⟨ki, fr, dt, mt, ma, mb, mc, es, ok⟩ = K at HT3 HTN HTM
  generalize t3N ⟨n, id, te, vo, lo, ro, co, vs, ns, hs⟩ ⟨ki, fr, dt, mt, ma, mb, mc, es, ok⟩ = T1 at HTN ⊢
  generalize t3M ⟨n, id, te, vo, lo, ro, co, vs, ns, hs⟩ ⟨ki, fr, dt, mt, ma, mb, mc, es, ok⟩ = T2 at HTM ⊢
  have HNUM := hide (And.intro ha0 (And.intro ha1 (And.intro hc0 (And.intro hc1 (And.intro hel (And.intro hll (And.intro hco hcl)))))))
  unfold mlV mlA at HANS
  unfold mlV mlA
  dsimp only at HANS
  clear he he0 hlr hB0 hm hW ha0 ha1 hc0 hc1 hel hll hco hcl
  go_enter Try.func76, Try.ntmps76
  go_upto_region 1 with fail
  generalize hWA : w.alloc (.cells #[.int .i64 ki, .int .i64 fr, .int .i64 dt, .int .i64 mt, .int .i64 ma, .int .i64 mb, .int .i64 mc, .slice eo es.length ec, .bool ok] 44) = A at HW HMB HNB ⊢
  clear hWA
  have p2 := HNB.out.cell 2
  have pl := HNB.out.lt
  have m3 := HMB.out.cell 3
  have ml := HMB.out.lt
  simp [ndA] at p2
  simp at m3
  try dsimp only [Act.put]
  go_cut [16] (fun y wc => y = .bool (decide (mt < te)) ∧ Below A.heap.size A wc)
  case first =>
    go_quiet (fail)
    go_wp2_with fail
    go_meet
    case rel => exact ⟨rfl, below_drewN (Below.refl _ _) _⟩
  case rest =>
  obtain ⟨rfl, hbc⟩ := hcut
  have HBC := hide (HW.out.trans (hbc.mono HW.out.size))
  have HMC := hide (HMB.out.later hbc)
  have HNC := hide (HM.out.below HBC.out)
  have HCH := hide (Chg.below (fun i => i ≠ 0) HM.out.ok HBC.out)
  have HEC := hide (HEV.out.keep HCH.out (by omega))
  clear p2 pl m3 ml hbc HMB HNB
  by_cases h1 : mt < te
  · have HE := hide (HT3.out.trans (if_pos h1))
    rw [decide_eq_true h1]
    rw [HE.out] at HTN HTM
    have HA := hide (HANS.out _ false 0 HNC.out.nr HEC.out.1)
    clear h1
    go_wp2_with (refine wpList_load_blk HMC.out Try.underlying44 rfl Try.sizeMail rfl rfl rfl ?_)
    refine HA.out.mono ?_
    rintro e w8 ⟨mv, rfl, how, hb8⟩
    go_wp2_with fail
    go_ret
    rw [HTN.out, HTM.out]
    exact ⟨_, _, _, _, _, _, rfl, HNC.out.below hb8, how.base HBC.out.size, HCH.out.trans (Chg.below _ HNC.out.ok hb8)⟩
  have HT4 := hide (HT3.out.trans (if_neg h1))
  rw [decide_eq_false h1]
  have c5 := HNC.out.blk.cell 5
  have cl := HNC.out.blk.lt
  simp [ndA] at c5
  clear h1
  by_cases h2 : ro = 2
  · have HE := hide (HT4.out.trans (if_pos h2))
    have hq : (ro == 2) = true := by simp [h2]
    rw [HE.out] at HTN HTM
    clear h2
    go_wp2_with fail
    go_ret
    rw [HTN.out, HTM.out]
    exact ⟨_, _, _, _, _, _, rfl, HNC.out, OwM.nil _ _, HCH.out⟩
  have HT5 := hide (HT4.out.trans (if_neg h2))
  have hq : (ro == 2) = false := by simp [h2]
  clear h2
  go_wp2_with fail
  refine (HFO.out _ HNC.out).mono ?_
  rintro e w1 ⟨rfl, hN1, hC1⟩
  have HN1 := hide (show Nm w1 lab B ⟨n, id, te, vo, lo, 0, co, [], [], []⟩ (.slice ao lo.length cap) (.slice none 0 0) (.slice none 0 0) (.slice none 0 0) from hN1)
  have HC1 := hide (HCH.out.trans (hC1.mono (fun i hi => (by omega : i ≠ 0))))
  have HE1 := hide (HEV.out.keep HC1.out (by omega))
  have HM1 := hide (HMC.out.keep hC1 (by rw [HM.out.ok _ (Nat.le_refl _)]; omega))
  have HZ1 := hide (show w.heap.size ≤ w1.heap.size from HC1.out.size)
  clear hN1 hC1 HFO c5 cl HMC HEC HNC HCH
  have HPT := hide (fun W (h : Below w1.heap.size w1 W) => PutO_any _ _ lo es ma mb W (HN1.out.nr.rd.log.below h) (HE1.out.1.below h))
  have HXZ := hide (putX_z lo ma mb es)
  generalize hPL : putL lo ma mb es = PL at HPT HTN HT5
  generalize putI lo ma mb es = PI at HPT HT5
  generalize putX lo ma mb es = PX at HPT HT5 HXZ
  obtain ⟨p, q⟩ := PX
  unfold flt at HPT
  have p4 := HN1.out.blk.cell 4
  have pl := HN1.out.blk.lt
  have m4 := HM1.out.cell 4
  have m5 := HM1.out.cell 5
  have m7 := HM1.out.cell 7
  have ml := HM1.out.lt
  simp [ndA] at p4
  simp at m4 m5 m7
  have HKEEP : Hid (∀ W, Below w1.heap.size w1 W → W.cell? ⟨B, 4, none⟩ = some (.slice ao lo.length cap) ∧ W.cell? ⟨w.heap.size, 4, none⟩ = some (.int .i64 ma) ∧ W.cell? ⟨w.heap.size, 5, none⟩ = some (.int .i64 mb) ∧ W.cell? ⟨w.heap.size, 7, none⟩ = some (.slice eo es.length ec)) := hide (fun W hW => ⟨(HN1.out.blk.later hW).cell 4, (HM1.out.later hW).cell 4, (HM1.out.later hW).cell 5, (HM1.out.later hW).cell 7⟩)
  have HD1 := hide (show Below w1.heap.size w1 w1.drew from Below.drew (Below.refl _ _))
  have HF0 : Hid (Blk (w1.drew.alloc (.cells #[.int .i64 0, .int .i64 0] 30)) w1.heap.size 30 #[.int .i64 0, .int .i64 0]) := hide (Blk.new w1.drew _ _)
  have HD2 := hide (show Below w1.heap.size w1 (w1.drew.alloc (.cells #[.int .i64 0, .int .i64 0] 30)) from HD1.out.trans ((below_allocG w1.drew _).mono HD1.out.size))
  have HEND1 : Hid (∀ (w2 : World) lo2 lc2, w2.ownsRow w1.heap.size 65 2 (.slice lo2 PL.length lc2) PL.length (eE.vs PL) → Below w1.heap.size w1 w2 → Blk (w2.alloc (.cells #[.int .i64 p, .int .i64 q] 30)) w2.heap.size 30 #[.int .i64 p, .int .i64 q] ∧ (w2.alloc (.cells #[.int .i64 p, .int .i64 q] 30)).ownsRow w1.heap.size 65 2 (.slice lo2 PL.length lc2) PL.length (eE.vs PL) ∧ Below w1.heap.size w1 (w2.alloc (.cells #[.int .i64 p, .int .i64 q] 30))) := hide (fun w2 lo2 lc2 ho hb => ⟨Blk.new _ _ _, ho.alloc _, hb.trans ((below_allocG w2 _).mono hb.size)⟩)
  go_upto_region 6 with fail
  try dsimp only [Act.put]
  go_cut [5, 6, 7] (fun l i f wc => ∃ lo2 lc2 F, l = .slice lo2 PL.length lc2 ∧ i = .bool PI ∧ f = .pointer (some ⟨F, 0, none⟩) ∧ w1.heap.size ≤ F ∧ Blk wc F 30 #[.int .i64 p, .int .i64 q] ∧ wc.ownsRow w1.heap.size 65 2 (.slice lo2 PL.length lc2) PL.length (eE.vs PL) ∧ Below w1.heap.size w1 wc)
  case first =>
    go_region_held3 (fun W => W.cell? ⟨B, 4, none⟩ = some (.slice ao lo.length cap) ∧ W.cell? ⟨w.heap.size, 4, none⟩ = some (.int .i64 ma) ∧ W.cell? ⟨w.heap.size, 5, none⟩ = some (.int .i64 mb) ∧ W.cell? ⟨w.heap.size, 7, none⟩ = some (.slice eo es.length ec)) (first | exact k9 | exact HKEEP.out _ (by go_grown)) (first
      | (go_at_call 89; refine (HPT.out _ (by first | exact HD1.out | exact HD2.out)).mono ?_; rintro e w2 ⟨v2, rfl, ho2, hb2⟩; obtain ⟨lo2, lc2, hv2⟩ := owns_shapeK ho2; subst hv2; have hb3 : Below w1.heap.size w1 w2 := (by first | exact HD1.out.trans (hb2.mono HD1.out.size) | exact HD2.out.trans (hb2.mono HD2.out.size)); have k9 := HKEEP.out w2 hb3; have HB3 := hide hb3; have hz3 := hb3.size; have HO2 := hide (owns_baseR ho2 (by first | exact HD1.out.size | exact HD2.out.size)); try (have hf := HF0.out.later hb2; have HF2 := hide hf; have f0 := hf.cell 0; have f1 := hf.cell 1; have z0 := hf.frozen 0; have z1 := hf.frozen 1; simp at f0 f1); clear ho2))
    all_goals
      go_wp2_with fail
      go_meet
      case rel =>
        first
          | exact ⟨lo2, lc2, w2.heap.size, rfl, rfl, rfl, hz3, Blk.new _ _ _, HO2.out.alloc _, HB3.out.trans ((below_allocG w2 _).mono HB3.out.size)⟩
          | (obtain ⟨g1, g2, g3⟩ := fault_set (p := p) (q := q) HF2.out HO2.out HB3.out (Nat.le_refl _)
             exact ⟨lo2, lc2, w1.heap.size, rfl, rfl, rfl, Nat.le_refl _, g1, g2, g3⟩)
  case rest =>
  obtain ⟨lo2, lc2, F, rfl, rfl, rfl, hF1, hF2, hO2, hb2⟩ := hcut
  have HFB := hide hF2
  have HO2 := hide hO2
  have HB2 := hide hb2
  have HN2 := hide (HN1.out.blk.later hb2)
  have HM2 := hide (HM1.out.later hb2)
  have HLG := hide (HN1.out.nr.rd.log.below hb2)
  clear p4 pl m4 m5 m7 ml HKEEP HD1 HF0 HD2 hF2 hO2 hb2 HPT
  have f0 := HFB.out.cell 0
  have f1 := HFB.out.cell 1
  have fl := HFB.out.lt
  have p4 := HN2.out.cell 4
  have p6 := HN2.out.cell 6
  have pl := HN2.out.lt
  simp [ndA] at p4 p6
  simp at f0 f1
  have hnum := HNUM.out
  have hs1 := run_slice_uptoK (K := 2) (P := Try.prog) Try.underlying22 (by kernel_rfl) infoEntry ao lo.length cap co.toNat co (by omega) (by omega)
  have hr1 := HLG.out.upto (hi := co.toNat) (by omega)
  obtain ⟨x1, hx1⟩ : ∃ x, Go.sliced ao 0 co.toNat cap 2 = x := ⟨_, rfl⟩
  rw [hx1] at hs1 hr1
  obtain ⟨y1, z1, hy1, _, _⟩ := hr1.shape
  subst hy1
  have HBW := hide (fun W (h : Below wc.heap.size wc W) => (beginsWith_any _ _ _ _ W ((RdG.ofOwns HO2.out).below h) (hr1.below h)).mono fun e W' (h2 : _ ∧ _) => And.intro h2.1 (h.trans (h2.2.mono h.size)))
  have hi0 : (0 : Int) ≤ co := by omega
  have hi1 : co ≤ (lo.length : Int) := by omega
  have hi2 : co ≤ (cap : Int) := by omega
  have HKEEP : Hid (∀ W, Below wc.heap.size wc W → W.cell? ⟨F, 0, none⟩ = some (.int .i64 p) ∧ W.cell? ⟨F, 1, none⟩ = some (.int .i64 q) ∧ W.cell? ⟨B, 4, none⟩ = some (.slice ao lo.length cap) ∧ W.cell? ⟨B, 6, none⟩ = some (.int .i64 co)) := hide (fun W hW => ⟨(HFB.out.later hW).cell 0, (HFB.out.later hW).cell 1, (HN2.out.later hW).cell 4, (HN2.out.later hW).cell 6⟩)
  have HD1 := hide (show Below wc.heap.size wc wc.drew from Below.drew (Below.refl _ _))
  clear hnum hx1 hr1
  generalize lo.take co.toNat = LT at HBW HT5 hs1
  generalize begB PL LT = BG at HBW HT5
  go_upto_region 7 with fail
  try dsimp only [Act.put]
  go_cut [62] (fun y wd => y = .bool (decide (p ≠ 0 ∨ BG = false)) ∧ Below wc.heap.size wc wd)
  case first =>
    by_cases hp : p ≠ 0
    · have hq0 : (p == 0) = false := beq_eq_false_iff_ne.2 hp
      have hq1 : (p != 0) = true := by simp [hp]
      have HQ := hide (decide_eq_true (show p ≠ 0 ∨ BG = false from .inl hp))
      clear hp
      go_quiet (fail)
      go_wp2_with fail
      go_meet
      case rel => exact ⟨by rw [HQ.out] <;> rfl, below_drewN (Below.refl _ _) _⟩
    obtain rfl : p = 0 := Decidable.not_not.1 hp
    obtain rfl : q = 0 := by have := HXZ.out rfl; simpa using this
    have HQ := hide (show decide ((0 : Int) ≠ 0 ∨ BG = false) = !BG by cases BG <;> simp)
    clear hp
    go_region_held3 (fun W => W.cell? ⟨F, 0, none⟩ = some (.int .i64 0) ∧ W.cell? ⟨F, 1, none⟩ = some (.int .i64 0) ∧ W.cell? ⟨B, 4, none⟩ = some (.slice ao lo.length cap) ∧ W.cell? ⟨B, 6, none⟩ = some (.int .i64 co)) (first | exact HKEEP.out _ hb8 | exact HKEEP.out _ (by go_grown)) (first
      | (go_at_call 90; refine (HBW.out _ HD1.out).mono ?_; rintro e w8 ⟨rfl, hb8⟩))
    all_goals
      go_wp2_with fail
      go_meet
      case rel => exact ⟨by rw [HQ.out] <;> rfl, hb8⟩
  case rest =>
  obtain ⟨rfl, hbd⟩ := hcut
  have HBD := hide (HB2.out.trans (hbd.mono HB2.out.size))
  have HND := hide (HN1.out.below HBD.out)
  have HOD := hide (owns_later HO2.out hbd)
  have HMD := hide (HM2.out.later hbd)
  have HCD := hide (HC1.out.trans (Chg.below _ HN1.out.ok HBD.out))
  have HED := hide (HEV.out.keep HCD.out (by omega))
  clear f0 f1 fl p4 p6 pl hs1 HBW hi0 hi1 hi2 HKEEP HD1 hbd HFB HO2 HN2 HM2 HLG HB2
  by_cases hnn : p ≠ 0 ∨ BG = false
  · have HE := hide (show K = .none by
      rw [HT5.out]
      by_cases hp : p ≠ 0
      · exact if_pos hp
      · rw [if_neg hp]
        rcases hnn with h | h
        · exact absurd h hp
        · exact if_pos h)
    rw [HE.out] at HTN HTM
    rw [decide_eq_true hnn]
    clear hnn
    go_wp2_with fail
    go_ret
    rw [HTN.out, HTM.out]
    exact ⟨_, _, _, _, _, _, rfl, HND.out, OwM.nil _ _, HCD.out⟩
  have HT6 := hide (show K = if PI = false then .no else .yes by
      rw [HT5.out, if_neg (fun q => hnn (.inl q)), if_neg (fun q => hnn (.inr q))])
  rw [decide_eq_false hnn]
  clear hnn
  cases PI
  · have HE := hide (HT6.out.trans (if_pos rfl))
    rw [HE.out] at HTN HTM
    have hnum := HNUM.out
    obtain ⟨P1, hP1⟩ : ∃ P1 : Int, P1 = min (ma - 1) lo.length := ⟨_, rfl⟩
    obtain ⟨Q1, hQ1⟩ : ∃ Q1 : Int, Q1 = max 0 P1 := ⟨_, rfl⟩
    have hwa : IntKind.i64.wrap (ma - 1) = ma - 1 := by rw [IntKind.wrap_i64]; omega
    have hmin : ∀ (ts : Array TypeId) (t : TypeId) (W : World), (Builtin.min_ ts t #[.int .i64 (ma - 1), .int .i64 (lo.length : Int)]).run Try.prog W = .ok (.int .i64 P1) W := fun ts t W => by rw [run_min_int2, show (if (lo.length : Int) < ma - 1 then (lo.length : Int) else ma - 1) = P1 by rw [hP1]; split <;> omega]
    have hmax : ∀ (ts : Array TypeId) (t : TypeId) (W : World), (Builtin.max_ ts t #[.int .i64 0, .int .i64 P1]).run Try.prog W = .ok (.int .i64 Q1) W := fun ts t W => by rw [run_max_int2, show (if P1 > 0 then P1 else 0) = Q1 by rw [hQ1]; split <;> omega]
    have HQQ := hide (show max 0 (min (ma - 1) (lo.length : Int)) = Q1 by rw [hQ1, hP1])
    have hD := show Below wc.heap.size wc wc.drew from Below.drew (Below.refl _ _)
    have HA := hide (answer_any B ⟨n, id, te, vo, lo, 0, co, [], [], []⟩ _ _ _ _ ⟨ki, fr, dt, mt, ma, mb, mc, es, ok⟩ _ 4 false Q1 wc.drew (HND.out.below hD).nr (HED.out.1.below hD))
    unfold mlV mlA at HA
    dsimp only at HA
    have HTA : Hid (∀ W, Below wc.drew.heap.size wc.drew W → Below wc.heap.size wc W) := hide fun W h => ⟨h.os, h.tape, h.output, h.size, h.block⟩
    have HKEEP : Hid (∀ W, Below wc.heap.size wc W → W.cell? ⟨w.heap.size, 0, none⟩ = some (.int .i64 ki) ∧ W.cell? ⟨w.heap.size, 1, none⟩ = some (.int .i64 fr) ∧ W.cell? ⟨w.heap.size, 2, none⟩ = some (.int .i64 dt) ∧ W.cell? ⟨w.heap.size, 3, none⟩ = some (.int .i64 mt) ∧ W.cell? ⟨w.heap.size, 4, none⟩ = some (.int .i64 ma) ∧ W.cell? ⟨w.heap.size, 5, none⟩ = some (.int .i64 mb) ∧ W.cell? ⟨w.heap.size, 6, none⟩ = some (.int .i64 mc) ∧ W.cell? ⟨w.heap.size, 7, none⟩ = some (.slice eo es.length ec) ∧ W.cell? ⟨w.heap.size, 8, none⟩ = some (.bool ok) ∧ W.cell? ⟨B, 4, none⟩ = some (.slice ao lo.length cap)) := hide (fun W hW => ⟨(HMD.out.later hW).cell 0, (HMD.out.later hW).cell 1, (HMD.out.later hW).cell 2, (HMD.out.later hW).cell 3, (HMD.out.later hW).cell 4, (HMD.out.later hW).cell 5, (HMD.out.later hW).cell 6, (HMD.out.later hW).cell 7, (HMD.out.later hW).cell 8, (HND.out.blk.later hW).cell 4⟩)
    have p4 := HND.out.blk.cell 4
    have pl := HND.out.blk.lt
    simp [ndA] at p4
    have m0 := HMD.out.cell 0
    have m1 := HMD.out.cell 1
    have m2 := HMD.out.cell 2
    have m3 := HMD.out.cell 3
    have m4 := HMD.out.cell 4
    have m5 := HMD.out.cell 5
    have m6 := HMD.out.cell 6
    have m7 := HMD.out.cell 7
    have m8 := HMD.out.cell 8
    have ml := HMD.out.lt
    simp at m0 m1 m2 m3 m4 m5 m6 m7 m8
    clear hnum hP1 hQ1 hD
    go_upto_region 10 with fail
    go_region_held3 (fun W => W.cell? ⟨w.heap.size, 0, none⟩ = some (.int .i64 ki) ∧ W.cell? ⟨w.heap.size, 1, none⟩ = some (.int .i64 fr) ∧ W.cell? ⟨w.heap.size, 2, none⟩ = some (.int .i64 dt) ∧ W.cell? ⟨w.heap.size, 3, none⟩ = some (.int .i64 mt) ∧ W.cell? ⟨w.heap.size, 4, none⟩ = some (.int .i64 ma) ∧ W.cell? ⟨w.heap.size, 5, none⟩ = some (.int .i64 mb) ∧ W.cell? ⟨w.heap.size, 6, none⟩ = some (.int .i64 mc) ∧ W.cell? ⟨w.heap.size, 7, none⟩ = some (.slice eo es.length ec) ∧ W.cell? ⟨w.heap.size, 8, none⟩ = some (.bool ok) ∧ W.cell? ⟨B, 4, none⟩ = some (.slice ao lo.length cap)) (first | exact HKEEP.out _ hb8 | exact HKEEP.out _ (by go_grown)) (first
      | (go_at_call 88; refine HA.out.mono ?_; rintro e w8 ⟨mv, rfl, how, hb7⟩; have hb8 := HTA.out _ hb7))
    all_goals
      go_wp2_with fail
      go_ret
      rw [HTN.out, HTM.out, HQQ.out]
      exact ⟨_, _, _, _, _, _, rfl, HND.out.below hb8, how.base (by have := HCD.out.size; exact this), HCD.out.trans (Chg.below _ HND.out.ok hb8)⟩
  have HE := hide (HT6.out.trans (if_neg (by simp)))
  rw [HE.out] at HTN HTM
  have HNB := hide HND.out.blk
  unfold ndA at HNB
  dsimp only at HNB
  have hBw : B < w.heap.size := HM.out.blk.lt
  go_upto_region 12 with (refine wpList_store_slice (k := 4) rfl rfl rfl rfl HNB.out rfl Try.sizeEntsR ?_; intro w3 hB3 hg3; have HB3 := hide hB3; have HG3 := hide hg3; clear hB3 hg3)
  have HM3 := hide (HMD.out.grown HG3.out (fun q => by cases q; exact absurd hBw (Nat.lt_irrefl _)))
  have hnum := HNUM.out
  obtain ⟨sm, hsm⟩ : ∃ sm : Int, sm = ma + es.length := ⟨_, rfl⟩
  obtain ⟨P1, hP1⟩ : ∃ P1 : Int, P1 = min mc sm := ⟨_, rfl⟩
  obtain ⟨cm, hcm⟩ : ∃ cm : Int, cm = max co P1 := ⟨_, rfl⟩
  have hwa : IntKind.i64.wrap (ma + (es.length : Int)) = sm := by rw [IntKind.wrap_i64, hsm]; omega
  have hmin : ∀ (ts : Array TypeId) (t : TypeId) (W : World), (Builtin.min_ ts t #[.int .i64 mc, .int .i64 sm]).run Try.prog W = .ok (.int .i64 P1) W := fun ts t W => by rw [run_min_int2, show (if sm < mc then sm else mc) = P1 by rw [hP1]; split <;> omega]
  have hmax : ∀ (ts : Array TypeId) (t : TypeId) (W : World), (Builtin.max_ ts t #[.int .i64 co, .int .i64 P1]).run Try.prog W = .ok (.int .i64 cm) W := fun ts t W => by rw [run_max_int2, show (if P1 > co then P1 else co) = cm by rw [hcm]; split <;> omega]
  have HQ1 := hide (show max co (min mc (ma + es.length)) = cm by rw [hcm, hP1, hsm])
  have HQ2 := hide (show ma + (es.length : Int) = sm from hsm.symm)
  have m4 := HM3.out.cell 4
  have m6 := HM3.out.cell 6
  have m7 := HM3.out.cell 7
  have ml := HM3.out.lt
  have p6 := HB3.out.cell 6
  have z6 := HB3.out.frozen 6
  have pl := HB3.out.lt
  simp at m4 m6 m7 p6
  clear hnum hsm hP1 hcm
  go_upto_region 13 with fail
  go_region
  all_goals
    have hB4 : Blk (w3.setCell ⟨B, 6, none⟩ (.int .i64 cm)).drew B 52 (ndA ⟨n, id, te, vo, PL, 0, cm, [], [], []⟩ (.slice lo2 PL.length lc2) (.slice none 0 0) (.slice none 0 0) (.slice none 0 0)) := HB3.out.set 6 (.int .i64 cm)
    have hg3 := grown_same HG3.out (grown_setCell w3 B 6 (.int .i64 cm))
    have hg4 : wc.grownBy (w3.setCell ⟨B, 6, none⟩ (.int .i64 cm)).drew (some B) := ⟨hg3.os, hg3.tape, hg3.output, hg3.size, hg3.block⟩
    have hM3 := HM3.out.grown (grown_setCell w3 B 6 (.int .i64 cm)) (fun q => by cases q; exact absurd hBw (Nat.lt_irrefl _))
    have hM4 : Blk (w3.setCell ⟨B, 6, none⟩ (.int .i64 cm)).drew w.heap.size 44 #[.int .i64 ki, .int .i64 fr, .int .i64 dt, .int .i64 mt, .int .i64 ma, .int .i64 mb, .int .i64 mc, .slice eo es.length ec, .bool ok] := hM3
    obtain ⟨hN5, hC5⟩ := HN1.out.newLog (l := PL) (c := cm) HBD.out HOD.out hg4 hB4
    have HN5 := hide hN5
    have HC5 := hide (HC1.out.trans (hC5.mono (fun i hi => (by omega : i ≠ 0))))
    have HM4 := hide hM4
    clear hB4 hg3 hg4 hM3 hM4 hN5 hC5 m4 m6 m7 ml p6 z6 pl
    generalize (w3.setCell ⟨B, 6, none⟩ (.int .i64 cm)).drew = wz at HN5 HC5 HM4 ⊢
    have HA := hide (answer_any B ⟨n, id, te, vo, PL, 0, cm, [], [], []⟩ _ _ _ _ ⟨ki, fr, dt, mt, ma, mb, mc, es, ok⟩ _ 4 true sm wz HN5.out.nr (HEV.out.keep HC5.out (by omega)).1)
    unfold mlV mlA at HA
    dsimp only at HA
    go_wp2_with (refine wpList_load_blk HM4.out Try.underlying44 rfl Try.sizeMail rfl rfl rfl ?_)
    refine HA.out.mono ?_
    rintro e w8 ⟨mv, rfl, how, hb8⟩
    go_wp2_with fail
    go_ret
    rw [HTN.out, HTM.out, HQ1.out, HQ2.out]
    exact ⟨_, _, _, _, _, _, rfl, HN5.out.below hb8, how.base HC5.out.size, HC5.out.trans (Chg.below _ HN5.out.ok hb8)⟩

end Go.Proofs.Ytbffmdhogehfnaa
