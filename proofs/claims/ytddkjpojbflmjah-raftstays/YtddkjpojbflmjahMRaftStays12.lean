/-
  Texts joined: LawRStays.
-/
import Derived.Test.YtddkjpojbflmjahMRaftStays11
/-
  The walk over the law RaftStays. (Written by rlaw.py.)
-/
namespace Go.Proofs.Ytddkjpojbflmjah
open Go.RowKit Go.Maps
set_option linter.unusedVariables false

theorem fieldFltR (a b : Int) (W : World) : (Instr.field 26 (.agg #[.int .i64 a, .int .i64 b]) 0).run Try.prog W = .ok (.int .i64 a) W := by
  kernel_rfl

theorem voGo_in {n : Int} : ∀ (l s : List Int), voGo n s l = true → ∀ v ∈ l, 0 ≤ v ∧ v ≤ n - 1
  | [], s, _, v, hv => by cases hv
  | u :: l, s, h, v, hv => by
    simp only [voGo, Bool.and_eq_true, wiB_true] at h
    rcases List.mem_cons.1 hv with rfl | hv
    · exact h.1.1
    · exact voGo_in l _ h.2 v hv

theorem FineN.wf {x : Nd} (h : FineN x) : ∀ v ∈ x.votes, WfI v := by
  intro v hv
  have h1 := h.vo
  have := h.n7
  unfold votesB at h1
  split at h1
  · simp only [Bool.and_eq_true] at h1
    have := voGo_in _ _ h1.1 v hv
    exact WfI.of (by omega) (by omega)
  · have h2 : x.votes = [] := List.eq_nil_of_length_eq_zero (by simpa using h1)
    rw [h2] at hv
    cases hv

set_option maxRecDepth 100000 in
set_option maxHeartbeats 16000000 in
theorem raftStays_any (x : Nd) (lv vv nv hv : Value) (mv : Value) (ms : List Ml) (w : World) (hx : RdNd w x lv vv nv hv) (hwf : ∀ v ∈ x.votes, WfI v) (hms : RdM w mv ms) :
    Calls Try.prog 6 #[ndV x lv vv nv hv, mv] w fun e w' => e = .returned (.bool true) ∧ Below w.heap.size w w' := by
  have HMS := hide hms
  obtain ⟨so, sc, hmv, hs1', hs2'⟩ := hms.shape
  subst hmv
  unfold maxLen at hs2'
  obtain ⟨lo0, lc0, hs1, _, _⟩ := hx.log.shape
  obtain ⟨vo0, vc0, hs2, _, _⟩ := hx.votes.shape
  obtain ⟨no0, nc0, hs3, _, _⟩ := hx.next.shape
  obtain ⟨ho0, hc0, hs4, _, _⟩ := hx.hav.shape
  subst hs1 hs2 hs3 hs4
  have HV := hide (fun W a b c d h => vastNode_any x a b c d W h)
  have HNF := hide (fun W a b c d h => NodeFault_any x a b c d W h)
  have HFI := hide (@chkN_fine x)
  have HP0 := hide (Blk.new w 34 #[.int .i64 x.n, .int .i64 x.id, .int .i64 x.term, .int .i64 x.vote, .slice lo0 x.log.length lc0, .int .i64 x.role, .int .i64 x.com, .slice vo0 x.votes.length vc0, .slice no0 x.next.length nc0, .slice ho0 x.hav.length hc0])
  have HX0 := hide (hx.below (below_allocG w (.cells #[.int .i64 x.n, .int .i64 x.id, .int .i64 x.term, .int .i64 x.vote, .slice lo0 x.log.length lc0, .int .i64 x.role, .int .i64 x.com, .slice vo0 x.votes.length vc0, .slice no0 x.next.length nc0, .slice ho0 x.hav.length hc0] 34)))
  have HB0 := hide (below_allocG w (.cells #[.int .i64 x.n, .int .i64 x.id, .int .i64 x.term, .int .i64 x.vote, .slice lo0 x.log.length lc0, .int .i64 x.role, .int .i64 x.com, .slice vo0 x.votes.length vc0, .slice no0 x.next.length nc0, .slice ho0 x.hav.length hc0] 34))
  unfold flt at HNF
  generalize chkN x = CK at HNF HFI
  obtain ⟨p, q⟩ := CK
  unfold ndV ndA
  have hfld := fun (a b : Int) (W : World) => fieldFltR a b W
  clear hx hwf hms
  go_enter Try.func6, Try.ntmps6
  go_wp2_with fail
  refine (raftBegun_any _).mono ?_
  rintro e w1 ⟨rfl, hb1⟩
  have HP1 := hide (HP0.out.later hb1)
  have HX1 := hide (HX0.out.below hb1)
  have HB1 := hide (HB0.out.trans (hb1.mono HB0.out.size))
  clear hb1 HP0 HX0 HB0
  have HC := hide (HV.out _ _ _ _ _ HX1.out)
  unfold ndV ndA at HC
  go_wp2_with (refine wpList_load_blk HP1.out Try.underlying34 rfl Try.sizeNode rfl rfl rfl ?_)
  refine HC.out.mono ?_
  clear HC HV
  generalize vastN x = VN
  cases VN
  case true =>
    rintro e w2 ⟨rfl, hb2⟩
    go_wp2_with fail
    go_ret
    exact ⟨rfl, HB1.out.trans (hb2.mono HB1.out.size)⟩
  rintro e w2 ⟨rfl, hb2⟩
  have HP2 := hide (HP1.out.later hb2)
  have HX2 := hide (HX1.out.below hb2)
  have HB2 := hide (HB1.out.trans (hb2.mono HB1.out.size))
  clear hb2 HP1 HX1 HB1
  by_cases hl : ms.length ≤ 200
  case neg =>
    have hq : decide ((200 : Int) < (ms.length : Int)) = true := decide_eq_true (by omega)
    clear hl
    go_wp2_with fail
    go_ret
    exact ⟨rfl, HB2.out⟩
  have hq : decide ((200 : Int) < (ms.length : Int)) = false := decide_eq_false (by omega)
  have hqn : decide (200 < ms.length) = false := decide_eq_false (by omega)
  have HC := hide (HNF.out _ _ _ _ _ HX2.out)
  unfold ndV ndA at HC
  by_cases hp : p ≠ 0
  · have hq1 : (p != 0) = true := by simp [hp]
    clear hp
    go_wp2_with (first | (refine wpList_load_blkW HP2.out Try.underlying34 rfl Try.sizeNode rfl rfl rfl ?_) | (go_at_call 21; refine HC.out.mono ?_; rintro e w3 ⟨rfl, hb3⟩; have HB3 := hide (HB2.out.trans (hb3.mono HB2.out.size)); clear hb3))
    go_ret
    exact ⟨rfl, HB3.out⟩
  obtain rfl : p = 0 := Decidable.not_not.1 hp
  have HFX := hide (HFI.out rfl)
  clear hp HFI HNF
  go_wp2_with (first | (refine wpList_load_blkW HP2.out Try.underlying34 rfl Try.sizeNode rfl rfl rfl ?_) | (go_at_call 21; refine HC.out.mono ?_; rintro e w3 ⟨rfl, hb3⟩; have HP3 := hide (HP2.out.later hb3); have HX3 := hide (HX2.out.below hb3); have HB3 := hide (HB2.out.trans (hb3.mono HB2.out.size)); clear hb3 HC HP2 HX2 HB2))
  go_loopw [5] (fun iv wr => ∃ (i : Nat) (X : Nd) (lo0 : Option Addr) (lc0 : Nat) (vo0 : Option Addr) (vc0 : Nat) (no0 : Option Addr) (nc0 : Nat) (ho0 : Option Addr) (hc0 : Nat), i ≤ ms.length ∧ iv = .int .i64 i ∧ FineN X ∧ Blk wr w.heap.size 34 #[.int .i64 X.n, .int .i64 X.id, .int .i64 X.term, .int .i64 X.vote, .slice lo0 X.log.length lc0, .int .i64 X.role, .int .i64 X.com, .slice vo0 X.votes.length vc0, .slice no0 X.next.length nc0, .slice ho0 X.hav.length hc0] ∧ RdNd wr X (.slice lo0 X.log.length lc0) (.slice vo0 X.votes.length vc0) (.slice no0 X.next.length nc0) (.slice ho0 X.hav.length hc0) ∧ Below w.heap.size w wr)
    (fun iv _ => ms.length - (intOf iv).toNat)
  case atStart => exact ⟨0, x, _, _, _, _, _, _, _, _, by omega, rfl, HFX.out, HP3.out, HX3.out, HB3.out⟩
  case round =>
    clear HP3 HX3 HB3 HFX
    obtain ⟨i, X, lo0, lc0, vo0, vc0, no0, nc0, ho0, hc0, hi, rfl, hfx, hpx, hrx, hbr⟩ := hrel
    have HFX := hide hfx
    have HPX := hide hpx
    have HRX := hide hrx
    have HBR := hide hbr
    clear hfx hpx hrx
    by_cases hlt : i < ms.length
    case neg =>
      have hje : i = ms.length := by omega
      subst hje
      clear hbr
      go_wp2_with fail
      go_ret
      exact ⟨rfl, HBR.out⟩
    obtain ⟨m, hm⟩ : ∃ m, ms[i]? = some m := ⟨_, List.getElem?_eq_getElem hlt⟩
    obtain ⟨b1, o1, so1, sc1, rfl, hb1, q0, q1, q2, q3, q4, q5, q6, q7, q8, hr1⟩ := (HMS.out.below hbr).here hm
    have hk1 : (0 : Int) ≤ (i : Int) := by omega
    have hk2 : (i : Int) < (ms.length : Int) := by omega
    have HR1 := hide hr1
    clear hr1 hm hbr
    go_wp2_with fail
    refine (vastLog_any so1 m.ents.length sc1 _).mono ?_
    cases vastE m.ents.length
    case true =>
      rintro e w4 ⟨rfl, rfl⟩
      go_wp2_with fail
      go_ret
      exact ⟨rfl, HBR.out⟩
    rintro e w4 ⟨rfl, h4⟩
    have h5 := h4.symm
    subst h5
    clear h4
    have HTK := hide (fun W (h : Below wr.heap.size wr W) => Take_any X (.slice lo0 X.log.length lc0) (.slice vo0 X.votes.length vc0) (.slice no0 X.next.length nc0) (.slice ho0 X.hav.length hc0) m (.slice so1 m.ents.length sc1) W (HRX.out.below h) HFX.out.wf (HR1.out.below h))
    unfold ndV ndA mlV mlA flt at HTK
    have HOK := hide (@takF_ok X m)
    have HTN : Hid ((takF X m).1 = 0 → takN X m = X.take m) := hide (fun h => if_pos h)
    have HTM : Hid ((takF X m).1 = 0 → takM X m = X.sends m) := hide (fun h => if_pos h)
    generalize takF X m = TF at HTK HOK HTN HTM
    obtain ⟨p, q9⟩ := TF
    generalize takN X m = Y at HTK HTN
    generalize takM X m = SM at HTK HTM
    have p0 := HPX.out.cell 0
    have p1 := HPX.out.cell 1
    have p2 := HPX.out.cell 2
    have p3 := HPX.out.cell 3
    have p4 := HPX.out.cell 4
    have p5 := HPX.out.cell 5
    have p6 := HPX.out.cell 6
    have p7 := HPX.out.cell 7
    have p8 := HPX.out.cell 8
    have p9 := HPX.out.cell 9
    have pl := HPX.out.lt
    simp at p0 p1 p2 p3 p4 p5 p6 p7 p8 p9
    have HKEEP : Hid (∀ W, Below wr.heap.size wr W → W.cell? ⟨w.heap.size, 0, none⟩ = some (.int .i64 X.n) ∧ W.cell? ⟨w.heap.size, 1, none⟩ = some (.int .i64 X.id) ∧ W.cell? ⟨w.heap.size, 2, none⟩ = some (.int .i64 X.term) ∧ W.cell? ⟨w.heap.size, 3, none⟩ = some (.int .i64 X.vote) ∧ W.cell? ⟨w.heap.size, 4, none⟩ = some (.slice lo0 X.log.length lc0) ∧ W.cell? ⟨w.heap.size, 5, none⟩ = some (.int .i64 X.role) ∧ W.cell? ⟨w.heap.size, 6, none⟩ = some (.int .i64 X.com) ∧ W.cell? ⟨w.heap.size, 7, none⟩ = some (.slice vo0 X.votes.length vc0) ∧ W.cell? ⟨w.heap.size, 8, none⟩ = some (.slice no0 X.next.length nc0) ∧ W.cell? ⟨w.heap.size, 9, none⟩ = some (.slice ho0 X.hav.length hc0) ∧ W.cell? ⟨b1, o1 + i * 9, none⟩ = some (.int .i64 m.kind) ∧ W.cell? ⟨b1, o1 + i * 9 + 1, none⟩ = some (.int .i64 m.frm) ∧ W.cell? ⟨b1, o1 + i * 9 + 2, none⟩ = some (.int .i64 m.to_) ∧ W.cell? ⟨b1, o1 + i * 9 + 3, none⟩ = some (.int .i64 m.term) ∧ W.cell? ⟨b1, o1 + i * 9 + 4, none⟩ = some (.int .i64 m.a) ∧ W.cell? ⟨b1, o1 + i * 9 + 5, none⟩ = some (.int .i64 m.b) ∧ W.cell? ⟨b1, o1 + i * 9 + 6, none⟩ = some (.int .i64 m.c) ∧ W.cell? ⟨b1, o1 + i * 9 + 7, none⟩ = some (.slice so1 m.ents.length sc1) ∧ W.cell? ⟨b1, o1 + i * 9 + 8, none⟩ = some (.bool m.ok)) := hide (fun W hW => ⟨(HPX.out.later hW).cell 0, (HPX.out.later hW).cell 1, (HPX.out.later hW).cell 2, (HPX.out.later hW).cell 3, (HPX.out.later hW).cell 4, (HPX.out.later hW).cell 5, (HPX.out.later hW).cell 6, (HPX.out.later hW).cell 7, (HPX.out.later hW).cell 8, (HPX.out.later hW).cell 9, cell_belowG q0 hW, cell_belowG q1 hW, cell_belowG q2 hW, cell_belowG q3 hW, cell_belowG q4 hW, cell_belowG q5 hW, cell_belowG q6 hW, cell_belowG q7 hW, cell_belowG q8 hW⟩)
    have HKN : Hid (∀ (W9 : World) (B9 : Nat) (v0 v1 v2 v3 v4 v5 v6 v7 v8 v9 : Value), Below wr.heap.size wr W9 → wr.heap.size ≤ B9 → ((((((((((W9.setCell ⟨B9, 0, none⟩ v0).setCell ⟨B9, 1, none⟩ v1).setCell ⟨B9, 2, none⟩ v2).setCell ⟨B9, 3, none⟩ v3).setCell ⟨B9, 4, none⟩ v4).setCell ⟨B9, 5, none⟩ v5).setCell ⟨B9, 6, none⟩ v6).setCell ⟨B9, 7, none⟩ v7).setCell ⟨B9, 8, none⟩ v8).setCell ⟨B9, 9, none⟩ v9).cell? ⟨w.heap.size, 0, none⟩ = some (.int .i64 X.n) ∧ ((((((((((W9.setCell ⟨B9, 0, none⟩ v0).setCell ⟨B9, 1, none⟩ v1).setCell ⟨B9, 2, none⟩ v2).setCell ⟨B9, 3, none⟩ v3).setCell ⟨B9, 4, none⟩ v4).setCell ⟨B9, 5, none⟩ v5).setCell ⟨B9, 6, none⟩ v6).setCell ⟨B9, 7, none⟩ v7).setCell ⟨B9, 8, none⟩ v8).setCell ⟨B9, 9, none⟩ v9).cell? ⟨w.heap.size, 1, none⟩ = some (.int .i64 X.id) ∧ ((((((((((W9.setCell ⟨B9, 0, none⟩ v0).setCell ⟨B9, 1, none⟩ v1).setCell ⟨B9, 2, none⟩ v2).setCell ⟨B9, 3, none⟩ v3).setCell ⟨B9, 4, none⟩ v4).setCell ⟨B9, 5, none⟩ v5).setCell ⟨B9, 6, none⟩ v6).setCell ⟨B9, 7, none⟩ v7).setCell ⟨B9, 8, none⟩ v8).setCell ⟨B9, 9, none⟩ v9).cell? ⟨w.heap.size, 2, none⟩ = some (.int .i64 X.term) ∧ ((((((((((W9.setCell ⟨B9, 0, none⟩ v0).setCell ⟨B9, 1, none⟩ v1).setCell ⟨B9, 2, none⟩ v2).setCell ⟨B9, 3, none⟩ v3).setCell ⟨B9, 4, none⟩ v4).setCell ⟨B9, 5, none⟩ v5).setCell ⟨B9, 6, none⟩ v6).setCell ⟨B9, 7, none⟩ v7).setCell ⟨B9, 8, none⟩ v8).setCell ⟨B9, 9, none⟩ v9).cell? ⟨w.heap.size, 3, none⟩ = some (.int .i64 X.vote) ∧ ((((((((((W9.setCell ⟨B9, 0, none⟩ v0).setCell ⟨B9, 1, none⟩ v1).setCell ⟨B9, 2, none⟩ v2).setCell ⟨B9, 3, none⟩ v3).setCell ⟨B9, 4, none⟩ v4).setCell ⟨B9, 5, none⟩ v5).setCell ⟨B9, 6, none⟩ v6).setCell ⟨B9, 7, none⟩ v7).setCell ⟨B9, 8, none⟩ v8).setCell ⟨B9, 9, none⟩ v9).cell? ⟨w.heap.size, 4, none⟩ = some (.slice lo0 X.log.length lc0) ∧ ((((((((((W9.setCell ⟨B9, 0, none⟩ v0).setCell ⟨B9, 1, none⟩ v1).setCell ⟨B9, 2, none⟩ v2).setCell ⟨B9, 3, none⟩ v3).setCell ⟨B9, 4, none⟩ v4).setCell ⟨B9, 5, none⟩ v5).setCell ⟨B9, 6, none⟩ v6).setCell ⟨B9, 7, none⟩ v7).setCell ⟨B9, 8, none⟩ v8).setCell ⟨B9, 9, none⟩ v9).cell? ⟨w.heap.size, 5, none⟩ = some (.int .i64 X.role) ∧ ((((((((((W9.setCell ⟨B9, 0, none⟩ v0).setCell ⟨B9, 1, none⟩ v1).setCell ⟨B9, 2, none⟩ v2).setCell ⟨B9, 3, none⟩ v3).setCell ⟨B9, 4, none⟩ v4).setCell ⟨B9, 5, none⟩ v5).setCell ⟨B9, 6, none⟩ v6).setCell ⟨B9, 7, none⟩ v7).setCell ⟨B9, 8, none⟩ v8).setCell ⟨B9, 9, none⟩ v9).cell? ⟨w.heap.size, 6, none⟩ = some (.int .i64 X.com) ∧ ((((((((((W9.setCell ⟨B9, 0, none⟩ v0).setCell ⟨B9, 1, none⟩ v1).setCell ⟨B9, 2, none⟩ v2).setCell ⟨B9, 3, none⟩ v3).setCell ⟨B9, 4, none⟩ v4).setCell ⟨B9, 5, none⟩ v5).setCell ⟨B9, 6, none⟩ v6).setCell ⟨B9, 7, none⟩ v7).setCell ⟨B9, 8, none⟩ v8).setCell ⟨B9, 9, none⟩ v9).cell? ⟨w.heap.size, 7, none⟩ = some (.slice vo0 X.votes.length vc0) ∧ ((((((((((W9.setCell ⟨B9, 0, none⟩ v0).setCell ⟨B9, 1, none⟩ v1).setCell ⟨B9, 2, none⟩ v2).setCell ⟨B9, 3, none⟩ v3).setCell ⟨B9, 4, none⟩ v4).setCell ⟨B9, 5, none⟩ v5).setCell ⟨B9, 6, none⟩ v6).setCell ⟨B9, 7, none⟩ v7).setCell ⟨B9, 8, none⟩ v8).setCell ⟨B9, 9, none⟩ v9).cell? ⟨w.heap.size, 8, none⟩ = some (.slice no0 X.next.length nc0) ∧ ((((((((((W9.setCell ⟨B9, 0, none⟩ v0).setCell ⟨B9, 1, none⟩ v1).setCell ⟨B9, 2, none⟩ v2).setCell ⟨B9, 3, none⟩ v3).setCell ⟨B9, 4, none⟩ v4).setCell ⟨B9, 5, none⟩ v5).setCell ⟨B9, 6, none⟩ v6).setCell ⟨B9, 7, none⟩ v7).setCell ⟨B9, 8, none⟩ v8).setCell ⟨B9, 9, none⟩ v9).cell? ⟨w.heap.size, 9, none⟩ = some (.slice ho0 X.hav.length hc0) ∧ ((((((((((W9.setCell ⟨B9, 0, none⟩ v0).setCell ⟨B9, 1, none⟩ v1).setCell ⟨B9, 2, none⟩ v2).setCell ⟨B9, 3, none⟩ v3).setCell ⟨B9, 4, none⟩ v4).setCell ⟨B9, 5, none⟩ v5).setCell ⟨B9, 6, none⟩ v6).setCell ⟨B9, 7, none⟩ v7).setCell ⟨B9, 8, none⟩ v8).setCell ⟨B9, 9, none⟩ v9).cell? ⟨b1, o1 + i * 9, none⟩ = some (.int .i64 m.kind) ∧ ((((((((((W9.setCell ⟨B9, 0, none⟩ v0).setCell ⟨B9, 1, none⟩ v1).setCell ⟨B9, 2, none⟩ v2).setCell ⟨B9, 3, none⟩ v3).setCell ⟨B9, 4, none⟩ v4).setCell ⟨B9, 5, none⟩ v5).setCell ⟨B9, 6, none⟩ v6).setCell ⟨B9, 7, none⟩ v7).setCell ⟨B9, 8, none⟩ v8).setCell ⟨B9, 9, none⟩ v9).cell? ⟨b1, o1 + i * 9 + 1, none⟩ = some (.int .i64 m.frm) ∧ ((((((((((W9.setCell ⟨B9, 0, none⟩ v0).setCell ⟨B9, 1, none⟩ v1).setCell ⟨B9, 2, none⟩ v2).setCell ⟨B9, 3, none⟩ v3).setCell ⟨B9, 4, none⟩ v4).setCell ⟨B9, 5, none⟩ v5).setCell ⟨B9, 6, none⟩ v6).setCell ⟨B9, 7, none⟩ v7).setCell ⟨B9, 8, none⟩ v8).setCell ⟨B9, 9, none⟩ v9).cell? ⟨b1, o1 + i * 9 + 2, none⟩ = some (.int .i64 m.to_) ∧ ((((((((((W9.setCell ⟨B9, 0, none⟩ v0).setCell ⟨B9, 1, none⟩ v1).setCell ⟨B9, 2, none⟩ v2).setCell ⟨B9, 3, none⟩ v3).setCell ⟨B9, 4, none⟩ v4).setCell ⟨B9, 5, none⟩ v5).setCell ⟨B9, 6, none⟩ v6).setCell ⟨B9, 7, none⟩ v7).setCell ⟨B9, 8, none⟩ v8).setCell ⟨B9, 9, none⟩ v9).cell? ⟨b1, o1 + i * 9 + 3, none⟩ = some (.int .i64 m.term) ∧ ((((((((((W9.setCell ⟨B9, 0, none⟩ v0).setCell ⟨B9, 1, none⟩ v1).setCell ⟨B9, 2, none⟩ v2).setCell ⟨B9, 3, none⟩ v3).setCell ⟨B9, 4, none⟩ v4).setCell ⟨B9, 5, none⟩ v5).setCell ⟨B9, 6, none⟩ v6).setCell ⟨B9, 7, none⟩ v7).setCell ⟨B9, 8, none⟩ v8).setCell ⟨B9, 9, none⟩ v9).cell? ⟨b1, o1 + i * 9 + 4, none⟩ = some (.int .i64 m.a) ∧ ((((((((((W9.setCell ⟨B9, 0, none⟩ v0).setCell ⟨B9, 1, none⟩ v1).setCell ⟨B9, 2, none⟩ v2).setCell ⟨B9, 3, none⟩ v3).setCell ⟨B9, 4, none⟩ v4).setCell ⟨B9, 5, none⟩ v5).setCell ⟨B9, 6, none⟩ v6).setCell ⟨B9, 7, none⟩ v7).setCell ⟨B9, 8, none⟩ v8).setCell ⟨B9, 9, none⟩ v9).cell? ⟨b1, o1 + i * 9 + 5, none⟩ = some (.int .i64 m.b) ∧ ((((((((((W9.setCell ⟨B9, 0, none⟩ v0).setCell ⟨B9, 1, none⟩ v1).setCell ⟨B9, 2, none⟩ v2).setCell ⟨B9, 3, none⟩ v3).setCell ⟨B9, 4, none⟩ v4).setCell ⟨B9, 5, none⟩ v5).setCell ⟨B9, 6, none⟩ v6).setCell ⟨B9, 7, none⟩ v7).setCell ⟨B9, 8, none⟩ v8).setCell ⟨B9, 9, none⟩ v9).cell? ⟨b1, o1 + i * 9 + 6, none⟩ = some (.int .i64 m.c) ∧ ((((((((((W9.setCell ⟨B9, 0, none⟩ v0).setCell ⟨B9, 1, none⟩ v1).setCell ⟨B9, 2, none⟩ v2).setCell ⟨B9, 3, none⟩ v3).setCell ⟨B9, 4, none⟩ v4).setCell ⟨B9, 5, none⟩ v5).setCell ⟨B9, 6, none⟩ v6).setCell ⟨B9, 7, none⟩ v7).setCell ⟨B9, 8, none⟩ v8).setCell ⟨B9, 9, none⟩ v9).cell? ⟨b1, o1 + i * 9 + 7, none⟩ = some (.slice so1 m.ents.length sc1) ∧ ((((((((((W9.setCell ⟨B9, 0, none⟩ v0).setCell ⟨B9, 1, none⟩ v1).setCell ⟨B9, 2, none⟩ v2).setCell ⟨B9, 3, none⟩ v3).setCell ⟨B9, 4, none⟩ v4).setCell ⟨B9, 5, none⟩ v5).setCell ⟨B9, 6, none⟩ v6).setCell ⟨B9, 7, none⟩ v7).setCell ⟨B9, 8, none⟩ v8).setCell ⟨B9, 9, none⟩ v9).cell? ⟨b1, o1 + i * 9 + 8, none⟩ = some (.bool m.ok)) := hide (fun W9 B9 v0 v1 v2 v3 v4 v5 v6 v7 v8 v9 hW hB => by
      have h := HKEEP.out (setL W9 B9 0 [v0, v1, v2, v3, v4, v5, v6, v7, v8, v9]) (below_grownO hW (setL_grown B9 _ W9 0) (fun k hk => by cases hk; exact hB) hW.size)
      simp only [setL] at h
      exact h)
    have HKF : Hid (∀ (W9 : World) (B9 : Nat) (u0 u1 : Value), Below wr.heap.size wr W9 → wr.heap.size ≤ B9 → ((W9.setCell ⟨B9, 0, none⟩ u0).setCell ⟨B9, 1, none⟩ u1).cell? ⟨w.heap.size, 0, none⟩ = some (.int .i64 X.n) ∧ ((W9.setCell ⟨B9, 0, none⟩ u0).setCell ⟨B9, 1, none⟩ u1).cell? ⟨w.heap.size, 1, none⟩ = some (.int .i64 X.id) ∧ ((W9.setCell ⟨B9, 0, none⟩ u0).setCell ⟨B9, 1, none⟩ u1).cell? ⟨w.heap.size, 2, none⟩ = some (.int .i64 X.term) ∧ ((W9.setCell ⟨B9, 0, none⟩ u0).setCell ⟨B9, 1, none⟩ u1).cell? ⟨w.heap.size, 3, none⟩ = some (.int .i64 X.vote) ∧ ((W9.setCell ⟨B9, 0, none⟩ u0).setCell ⟨B9, 1, none⟩ u1).cell? ⟨w.heap.size, 4, none⟩ = some (.slice lo0 X.log.length lc0) ∧ ((W9.setCell ⟨B9, 0, none⟩ u0).setCell ⟨B9, 1, none⟩ u1).cell? ⟨w.heap.size, 5, none⟩ = some (.int .i64 X.role) ∧ ((W9.setCell ⟨B9, 0, none⟩ u0).setCell ⟨B9, 1, none⟩ u1).cell? ⟨w.heap.size, 6, none⟩ = some (.int .i64 X.com) ∧ ((W9.setCell ⟨B9, 0, none⟩ u0).setCell ⟨B9, 1, none⟩ u1).cell? ⟨w.heap.size, 7, none⟩ = some (.slice vo0 X.votes.length vc0) ∧ ((W9.setCell ⟨B9, 0, none⟩ u0).setCell ⟨B9, 1, none⟩ u1).cell? ⟨w.heap.size, 8, none⟩ = some (.slice no0 X.next.length nc0) ∧ ((W9.setCell ⟨B9, 0, none⟩ u0).setCell ⟨B9, 1, none⟩ u1).cell? ⟨w.heap.size, 9, none⟩ = some (.slice ho0 X.hav.length hc0) ∧ ((W9.setCell ⟨B9, 0, none⟩ u0).setCell ⟨B9, 1, none⟩ u1).cell? ⟨b1, o1 + i * 9, none⟩ = some (.int .i64 m.kind) ∧ ((W9.setCell ⟨B9, 0, none⟩ u0).setCell ⟨B9, 1, none⟩ u1).cell? ⟨b1, o1 + i * 9 + 1, none⟩ = some (.int .i64 m.frm) ∧ ((W9.setCell ⟨B9, 0, none⟩ u0).setCell ⟨B9, 1, none⟩ u1).cell? ⟨b1, o1 + i * 9 + 2, none⟩ = some (.int .i64 m.to_) ∧ ((W9.setCell ⟨B9, 0, none⟩ u0).setCell ⟨B9, 1, none⟩ u1).cell? ⟨b1, o1 + i * 9 + 3, none⟩ = some (.int .i64 m.term) ∧ ((W9.setCell ⟨B9, 0, none⟩ u0).setCell ⟨B9, 1, none⟩ u1).cell? ⟨b1, o1 + i * 9 + 4, none⟩ = some (.int .i64 m.a) ∧ ((W9.setCell ⟨B9, 0, none⟩ u0).setCell ⟨B9, 1, none⟩ u1).cell? ⟨b1, o1 + i * 9 + 5, none⟩ = some (.int .i64 m.b) ∧ ((W9.setCell ⟨B9, 0, none⟩ u0).setCell ⟨B9, 1, none⟩ u1).cell? ⟨b1, o1 + i * 9 + 6, none⟩ = some (.int .i64 m.c) ∧ ((W9.setCell ⟨B9, 0, none⟩ u0).setCell ⟨B9, 1, none⟩ u1).cell? ⟨b1, o1 + i * 9 + 7, none⟩ = some (.slice so1 m.ents.length sc1) ∧ ((W9.setCell ⟨B9, 0, none⟩ u0).setCell ⟨B9, 1, none⟩ u1).cell? ⟨b1, o1 + i * 9 + 8, none⟩ = some (.bool m.ok)) := hide (fun W9 B9 u0 u1 hW hB => by
      have h := HKEEP.out (setL W9 B9 0 [u0, u1]) (below_grownO hW (setL_grown B9 _ W9 0) (fun k hk => by cases hk; exact hB) hW.size)
      simp only [setL] at h
      exact h)
    have HBN : Hid (∀ (W9 : World) (B9 : Nat) (v0 v1 v2 v3 v4 v5 v6 v7 v8 v9 : Value), Below wr.heap.size wr W9 → wr.heap.size ≤ B9 → Below wr.heap.size wr ((((((((((W9.setCell ⟨B9, 0, none⟩ v0).setCell ⟨B9, 1, none⟩ v1).setCell ⟨B9, 2, none⟩ v2).setCell ⟨B9, 3, none⟩ v3).setCell ⟨B9, 4, none⟩ v4).setCell ⟨B9, 5, none⟩ v5).setCell ⟨B9, 6, none⟩ v6).setCell ⟨B9, 7, none⟩ v7).setCell ⟨B9, 8, none⟩ v8).setCell ⟨B9, 9, none⟩ v9)) := hide (fun W9 B9 v0 v1 v2 v3 v4 v5 v6 v7 v8 v9 hW hB => by
      have h := below_grownO hW (setL_grown B9 [v0, v1, v2, v3, v4, v5, v6, v7, v8, v9] W9 0) (fun k hk => by cases hk; exact hB) hW.size
      simp only [setL] at h
      exact h)
    have HBF : Hid (∀ (W9 : World) (B9 : Nat) (u0 u1 : Value), Below wr.heap.size wr W9 → wr.heap.size ≤ B9 → Below wr.heap.size wr ((W9.setCell ⟨B9, 0, none⟩ u0).setCell ⟨B9, 1, none⟩ u1)) := hide (fun W9 B9 u0 u1 hW hB => by
      have h := below_grownO hW (setL_grown B9 [u0, u1] W9 0) (fun k hk => by cases hk; exact hB) hW.size
      simp only [setL] at h
      exact h)
    have HBA : Hid (∀ (W9 : World) (o : Obj), Below wr.heap.size wr W9 → Below wr.heap.size wr (W9.alloc o)) := hide (fun W9 o hW => hW.trans ((below_allocG W9 o).mono hW.size))
    have HA1 : Hid (Blk (wr.alloc (.cells #[.int .i64 0, .int .i64 0, .int .i64 0, .int .i64 0, .slice none 0 0, .int .i64 0, .int .i64 0, .slice none 0 0, .slice none 0 0, .slice none 0 0] 34)).drew wr.heap.size 34 #[.int .i64 0, .int .i64 0, .int .i64 0, .int .i64 0, .slice none 0 0, .int .i64 0, .int .i64 0, .slice none 0 0, .slice none 0 0, .slice none 0 0]) := hide (Blk.new wr _ _)
    have HA2 : Hid (Blk (wr.alloc (.cells #[.int .i64 0, .int .i64 0] 26)).drew wr.heap.size 26 #[.int .i64 0, .int .i64 0]) := hide (Blk.new wr _ _)
    have HA3 : Hid (Blk ((wr.alloc (.cells #[.int .i64 0, .int .i64 0, .int .i64 0, .int .i64 0, .slice none 0 0, .int .i64 0, .int .i64 0, .slice none 0 0, .slice none 0 0, .slice none 0 0] 34)).alloc (.cells #[.int .i64 0, .int .i64 0] 26)).drew (wr.heap.size + 1) 26 #[.int .i64 0, .int .i64 0]) := hide (Blk.at1 wr _ _ _)
    have HA4 : Hid (Blk ((wr.alloc (.cells #[.int .i64 0, .int .i64 0] 26)).alloc (.cells #[.int .i64 0, .int .i64 0, .int .i64 0, .int .i64 0, .slice none 0 0, .int .i64 0, .int .i64 0, .slice none 0 0, .slice none 0 0, .slice none 0 0] 34)).drew (wr.heap.size + 1) 34 #[.int .i64 0, .int .i64 0, .int .i64 0, .int .i64 0, .slice none 0 0, .int .i64 0, .int .i64 0, .slice none 0 0, .slice none 0 0, .slice none 0 0]) := hide (Blk.at1 wr _ _ _)
    have HA5 : Hid (Blk ((wr.alloc (.cells #[.int .i64 0, .int .i64 0, .int .i64 0, .int .i64 0, .slice none 0 0, .int .i64 0, .int .i64 0, .slice none 0 0, .slice none 0 0, .slice none 0 0] 34)).alloc (.cells #[.int .i64 0, .int .i64 0] 26)).drew wr.heap.size 34 #[.int .i64 0, .int .i64 0, .int .i64 0, .int .i64 0, .slice none 0 0, .int .i64 0, .int .i64 0, .slice none 0 0, .slice none 0 0, .slice none 0 0]) := hide (Blk.at0of2 wr _ _ _)
    have HA6 : Hid (Blk ((wr.alloc (.cells #[.int .i64 0, .int .i64 0] 26)).alloc (.cells #[.int .i64 0, .int .i64 0, .int .i64 0, .int .i64 0, .slice none 0 0, .int .i64 0, .int .i64 0, .slice none 0 0, .slice none 0 0, .slice none 0 0] 34)).drew wr.heap.size 26 #[.int .i64 0, .int .i64 0]) := hide (Blk.at0of2 wr _ _ _)
    go_upto_region 10 with fail
    try dsimp only [Act.put]
    go_cut [6, 7, 8] (fun a b c wc => ∃ BN BF lo5 lc5 vo5 vc5 no5 nc5 ho5 hc5 mo5 mc5, a = .pointer (some ⟨BN, 0, none⟩) ∧ b = .slice mo5 SM.length mc5 ∧ c = .pointer (some ⟨BF, 0, none⟩) ∧ wr.heap.size ≤ BN ∧ Blk wc BN 34 #[.int .i64 Y.n, .int .i64 Y.id, .int .i64 Y.term, .int .i64 Y.vote, .slice lo5 Y.log.length lc5, .int .i64 Y.role, .int .i64 Y.com, .slice vo5 Y.votes.length vc5, .slice no5 Y.next.length nc5, .slice ho5 Y.hav.length hc5] ∧ Blk wc BF 26 #[.int .i64 p, .int .i64 q9] ∧ AnsN wc wr.heap.size Y (.slice lo5 Y.log.length lc5) (.slice vo5 Y.votes.length vc5) (.slice no5 Y.next.length nc5) (.slice ho5 Y.hav.length hc5) ∧ RdM wc (.slice mo5 SM.length mc5) SM ∧ Below wr.heap.size wr wc)
    case first =>
      go_region_held3 (fun W => W.cell? ⟨w.heap.size, 0, none⟩ = some (.int .i64 X.n) ∧ W.cell? ⟨w.heap.size, 1, none⟩ = some (.int .i64 X.id) ∧ W.cell? ⟨w.heap.size, 2, none⟩ = some (.int .i64 X.term) ∧ W.cell? ⟨w.heap.size, 3, none⟩ = some (.int .i64 X.vote) ∧ W.cell? ⟨w.heap.size, 4, none⟩ = some (.slice lo0 X.log.length lc0) ∧ W.cell? ⟨w.heap.size, 5, none⟩ = some (.int .i64 X.role) ∧ W.cell? ⟨w.heap.size, 6, none⟩ = some (.int .i64 X.com) ∧ W.cell? ⟨w.heap.size, 7, none⟩ = some (.slice vo0 X.votes.length vc0) ∧ W.cell? ⟨w.heap.size, 8, none⟩ = some (.slice no0 X.next.length nc0) ∧ W.cell? ⟨w.heap.size, 9, none⟩ = some (.slice ho0 X.hav.length hc0) ∧ W.cell? ⟨b1, o1 + i * 9, none⟩ = some (.int .i64 m.kind) ∧ W.cell? ⟨b1, o1 + i * 9 + 1, none⟩ = some (.int .i64 m.frm) ∧ W.cell? ⟨b1, o1 + i * 9 + 2, none⟩ = some (.int .i64 m.to_) ∧ W.cell? ⟨b1, o1 + i * 9 + 3, none⟩ = some (.int .i64 m.term) ∧ W.cell? ⟨b1, o1 + i * 9 + 4, none⟩ = some (.int .i64 m.a) ∧ W.cell? ⟨b1, o1 + i * 9 + 5, none⟩ = some (.int .i64 m.b) ∧ W.cell? ⟨b1, o1 + i * 9 + 6, none⟩ = some (.int .i64 m.c) ∧ W.cell? ⟨b1, o1 + i * 9 + 7, none⟩ = some (.slice so1 m.ents.length sc1) ∧ W.cell? ⟨b1, o1 + i * 9 + 8, none⟩ = some (.bool m.ok)) (first | with_reducible exact k9 | with_reducible exact HKEEP.out _ (HBA.out _ _ hbZ) | with_reducible exact HKEEP.out _ (HBA.out _ _ (HBA.out _ _ hbZ)) | with_reducible exact HKN.out _ _ _ _ _ _ _ _ _ _ _ _ hbZ (by omega) | with_reducible exact HKN.out _ _ _ _ _ _ _ _ _ _ _ _ (HBA.out _ _ hbZ) (by omega) | with_reducible exact HKN.out _ _ _ _ _ _ _ _ _ _ _ _ (HBA.out _ _ (HBA.out _ _ hbZ)) (by omega) | with_reducible exact HKN.out _ _ _ _ _ _ _ _ _ _ _ _ (HBN.out _ _ _ _ _ _ _ _ _ _ _ _ hbZ (by omega)) (by omega) | with_reducible exact HKN.out _ _ _ _ _ _ _ _ _ _ _ _ (HBF.out _ _ _ _ hbZ (by omega)) (by omega) | with_reducible exact HKN.out _ _ _ _ _ _ _ _ _ _ _ _ (HBA.out _ _ (HBN.out _ _ _ _ _ _ _ _ _ _ _ _ hbZ (by omega))) (by omega) | with_reducible exact HKN.out _ _ _ _ _ _ _ _ _ _ _ _ (HBA.out _ _ (HBF.out _ _ _ _ hbZ (by omega))) (by omega) | with_reducible exact HKF.out _ _ _ _ hbZ (by omega) | with_reducible exact HKF.out _ _ _ _ (HBA.out _ _ hbZ) (by omega) | with_reducible exact HKF.out _ _ _ _ (HBA.out _ _ (HBA.out _ _ hbZ)) (by omega) | with_reducible exact HKF.out _ _ _ _ (HBN.out _ _ _ _ _ _ _ _ _ _ _ _ hbZ (by omega)) (by omega) | with_reducible exact HKF.out _ _ _ _ (HBF.out _ _ _ _ hbZ (by omega)) (by omega) | with_reducible exact HKF.out _ _ _ _ (HBA.out _ _ (HBN.out _ _ _ _ _ _ _ _ _ _ _ _ hbZ (by omega))) (by omega) | with_reducible exact HKF.out _ _ _ _ (HBA.out _ _ (HBF.out _ _ _ _ hbZ (by omega))) (by omega) | with_reducible exact HKEEP.out _ (HBN.out _ _ _ _ _ _ _ _ _ _ _ _ hbZ (by omega)) | with_reducible exact HKEEP.out _ (HBF.out _ _ _ _ hbZ (by omega)) | with_reducible exact HKEEP.out _ (HBA.out _ _ (HBN.out _ _ _ _ _ _ _ _ _ _ _ _ hbZ (by omega))) | with_reducible exact HKEEP.out _ (HBA.out _ _ (HBF.out _ _ _ _ hbZ (by omega))) | exact HKEEP.out _ (by go_grown)) (first
        | (go_at_call 28; refine (HTK.out _ (by go_grown)).mono ?_; rintro e w5 ⟨lv5, vv5, nv5, hv5, mv5, rfl, han5, how5, hb5⟩; obtain ⟨lo5, lc5, hs1, _, _⟩ := han5.rd.log.shape; obtain ⟨vo5, vc5, hs2, _, _⟩ := han5.rd.votes.shape; obtain ⟨no5, nc5, hs3, _, _⟩ := han5.rd.next.shape; obtain ⟨ho5, hc5, hs4, _, _⟩ := han5.rd.hav.shape; obtain ⟨mo5, mc5, hs5, _, _⟩ := how5.rd.shape; subst hs1 hs2 hs3 hs4 hs5; have HAN := hide han5; have HOW := hide how5; (try (have HAN2 := hide (han5.base (b2 := wr.heap.size + 1 + 1) (by first | (simp; done) | fail)); have HOW2 := hide (how5.base (b2 := wr.heap.size + 1 + 1) (by first | (simp; done) | fail)))); (try (have HAN1 := hide (han5.base (b2 := wr.heap.size + 1) (by first | (simp; done) | (simp; omega))); have HOW1 := hide (how5.base (b2 := wr.heap.size + 1) (by first | (simp; done) | (simp; omega))))); have HAN0 := hide (han5.base (b2 := wr.heap.size) (by first | (simp; done) | (simp; omega))); have HOW0 := hide (how5.base (b2 := wr.heap.size) (by first | (simp; done) | (simp; omega))); have hbZ : Below wr.heap.size wr w5 := Below.trans (by go_grown) (hb5.mono (by first | (simp; done) | (simp; omega))); have hz5 := hbZ.size; have hzc := hb5.size; simp at hzc; have k9 := HKEEP.out w5 hbZ; clear han5 how5; (try (with_reducible have hfN := HA1.out.later hb5; have HBN5 := hide hfN; have fn0 := hfN.cell 0; have fnz0 := hfN.frozen 0; have fn1 := hfN.cell 1; have fnz1 := hfN.frozen 1; have fn2 := hfN.cell 2; have fnz2 := hfN.frozen 2; have fn3 := hfN.cell 3; have fnz3 := hfN.frozen 3; have fn4 := hfN.cell 4; have fnz4 := hfN.frozen 4; have fn5 := hfN.cell 5; have fnz5 := hfN.frozen 5; have fn6 := hfN.cell 6; have fnz6 := hfN.frozen 6; have fn7 := hfN.cell 7; have fnz7 := hfN.frozen 7; have fn8 := hfN.cell 8; have fnz8 := hfN.frozen 8; have fn9 := hfN.cell 9; have fnz9 := hfN.frozen 9; have fnl := hfN.lt; simp at fn0 fn1 fn2 fn3 fn4 fn5 fn6 fn7 fn8 fn9; clear hfN)); (try (with_reducible have hfN := HA5.out.later hb5; have HBN5 := hide hfN; have fn0 := hfN.cell 0; have fnz0 := hfN.frozen 0; have fn1 := hfN.cell 1; have fnz1 := hfN.frozen 1; have fn2 := hfN.cell 2; have fnz2 := hfN.frozen 2; have fn3 := hfN.cell 3; have fnz3 := hfN.frozen 3; have fn4 := hfN.cell 4; have fnz4 := hfN.frozen 4; have fn5 := hfN.cell 5; have fnz5 := hfN.frozen 5; have fn6 := hfN.cell 6; have fnz6 := hfN.frozen 6; have fn7 := hfN.cell 7; have fnz7 := hfN.frozen 7; have fn8 := hfN.cell 8; have fnz8 := hfN.frozen 8; have fn9 := hfN.cell 9; have fnz9 := hfN.frozen 9; have fnl := hfN.lt; simp at fn0 fn1 fn2 fn3 fn4 fn5 fn6 fn7 fn8 fn9; clear hfN)); (try (with_reducible have hfN := HA4.out.later hb5; have HBN5 := hide hfN; have fn0 := hfN.cell 0; have fnz0 := hfN.frozen 0; have fn1 := hfN.cell 1; have fnz1 := hfN.frozen 1; have fn2 := hfN.cell 2; have fnz2 := hfN.frozen 2; have fn3 := hfN.cell 3; have fnz3 := hfN.frozen 3; have fn4 := hfN.cell 4; have fnz4 := hfN.frozen 4; have fn5 := hfN.cell 5; have fnz5 := hfN.frozen 5; have fn6 := hfN.cell 6; have fnz6 := hfN.frozen 6; have fn7 := hfN.cell 7; have fnz7 := hfN.frozen 7; have fn8 := hfN.cell 8; have fnz8 := hfN.frozen 8; have fn9 := hfN.cell 9; have fnz9 := hfN.frozen 9; have fnl := hfN.lt; simp at fn0 fn1 fn2 fn3 fn4 fn5 fn6 fn7 fn8 fn9; clear hfN)); (try (with_reducible have hfF := HA2.out.later hb5; have HBF5 := hide hfF; have ff0 := hfF.cell 0; have ffz0 := hfF.frozen 0; have ff1 := hfF.cell 1; have ffz1 := hfF.frozen 1; have ffl := hfF.lt; simp at ff0 ff1; clear hfF)); (try (with_reducible have hfF := HA6.out.later hb5; have HBF5 := hide hfF; have ff0 := hfF.cell 0; have ffz0 := hfF.frozen 0; have ff1 := hfF.cell 1; have ffz1 := hfF.frozen 1; have ffl := hfF.lt; simp at ff0 ff1; clear hfF)); (try (with_reducible have hfF := HA3.out.later hb5; have HBF5 := hide hfF; have ff0 := hfF.cell 0; have ffz0 := hfF.frozen 0; have ff1 := hfF.cell 1; have ffz1 := hfF.frozen 1; have ffl := hfF.lt; simp at ff0 ff1; clear hfF)); (try (have ne1 : wr.heap.size ≠ w5.heap.size := by omega)); (try (have ne2 : w5.heap.size ≠ wr.heap.size := by omega)); (try (have ne3 : wr.heap.size + 1 ≠ w5.heap.size := by omega)); (try (have ne4 : w5.heap.size ≠ wr.heap.size + 1 := by omega)); (try (have ne5 : wr.heap.size ≠ w5.heap.size + 1 := by omega)); (try (have ne6 : w5.heap.size + 1 ≠ wr.heap.size := by omega)); (try (have ne7 : wr.heap.size ≠ wr.heap.size + 1 := by omega)); (try (have ne8 : wr.heap.size + 1 ≠ wr.heap.size := by omega)))
        | fail)
      all_goals
        first
          | (have hh2 := HAN2
             have hh : Hid (Blk w5 (wr.heap.size) 34 #[.int .i64 0, .int .i64 0, .int .i64 0, .int .i64 0, .slice none 0 0, .int .i64 0, .int .i64 0, .slice none 0 0, .slice none 0 0, .slice none 0 0]) := (by with_reducible exact HBN5)
             have g9 := r10_both (vs := [.int .i64 Y.n, .int .i64 Y.id, .int .i64 Y.term, .int .i64 Y.vote, .slice lo5 Y.log.length lc5, .int .i64 Y.role, .int .i64 Y.com, .slice vo5 Y.votes.length vc5, .slice no5 Y.next.length nc5, .slice ho5 Y.hav.length hc5]) (us := [.int .i64 p, .int .i64 q9]) HBN5.out HBF5.out rfl rfl (by omega) HAN2.out HOW2.out hbZ (by omega) (by omega) (by omega) (by omega)
             try simp only [setL] at g9
             have G9 := hide g9
             clear g9 HAN HOW hb5 k9 hbZ
             generalize ((((((((((((w5.setCell ⟨wr.heap.size, 0, none⟩ (.int .i64 Y.n)).setCell ⟨wr.heap.size, 1, none⟩ (.int .i64 Y.id)).setCell ⟨wr.heap.size, 2, none⟩ (.int .i64 Y.term)).setCell ⟨wr.heap.size, 3, none⟩ (.int .i64 Y.vote)).setCell ⟨wr.heap.size, 4, none⟩ (.slice lo5 Y.log.length lc5)).setCell ⟨wr.heap.size, 5, none⟩ (.int .i64 Y.role)).setCell ⟨wr.heap.size, 6, none⟩ (.int .i64 Y.com)).setCell ⟨wr.heap.size, 7, none⟩ (.slice vo5 Y.votes.length vc5)).setCell ⟨wr.heap.size, 8, none⟩ (.slice no5 Y.next.length nc5)).setCell ⟨wr.heap.size, 9, none⟩ (.slice ho5 Y.hav.length hc5)).setCell ⟨wr.heap.size + 1, 0, none⟩ (.int .i64 p)).setCell ⟨wr.heap.size + 1, 1, none⟩ (.int .i64 q9)) = wz at G9 ⊢
             (try clear fn0 fnz0 fn1 fnz1 fn2 fnz2 fn3 fnz3 fn4 fnz4 fn5 fnz5 fn6 fnz6 fn7 fnz7 fn8 fnz8 fn9 fnz9 fnl); (try clear ff0 ffz0 ff1 ffz1 ffl)
             go_wp2_with fail
             go_meet
             case rel => exact ⟨_, _, _, _, _, _, _, _, _, _, _, _, rfl, rfl, rfl, G9.out.le, G9.out.g1, G9.out.g2, G9.out.g5, G9.out.g6, G9.out.g4⟩)
          | (have hh2 := HAN2
             have hh : Hid (Blk w5 (wr.heap.size + 1) 34 #[.int .i64 0, .int .i64 0, .int .i64 0, .int .i64 0, .slice none 0 0, .int .i64 0, .int .i64 0, .slice none 0 0, .slice none 0 0, .slice none 0 0]) := (by with_reducible exact HBN5)
             have g9 := r10_both (vs := [.int .i64 Y.n, .int .i64 Y.id, .int .i64 Y.term, .int .i64 Y.vote, .slice lo5 Y.log.length lc5, .int .i64 Y.role, .int .i64 Y.com, .slice vo5 Y.votes.length vc5, .slice no5 Y.next.length nc5, .slice ho5 Y.hav.length hc5]) (us := [.int .i64 p, .int .i64 q9]) HBN5.out HBF5.out rfl rfl (by omega) HAN2.out HOW2.out hbZ (by omega) (by omega) (by omega) (by omega)
             try simp only [setL] at g9
             have G9 := hide g9
             clear g9 HAN HOW hb5 k9 hbZ
             generalize ((((((((((((w5.setCell ⟨wr.heap.size + 1, 0, none⟩ (.int .i64 Y.n)).setCell ⟨wr.heap.size + 1, 1, none⟩ (.int .i64 Y.id)).setCell ⟨wr.heap.size + 1, 2, none⟩ (.int .i64 Y.term)).setCell ⟨wr.heap.size + 1, 3, none⟩ (.int .i64 Y.vote)).setCell ⟨wr.heap.size + 1, 4, none⟩ (.slice lo5 Y.log.length lc5)).setCell ⟨wr.heap.size + 1, 5, none⟩ (.int .i64 Y.role)).setCell ⟨wr.heap.size + 1, 6, none⟩ (.int .i64 Y.com)).setCell ⟨wr.heap.size + 1, 7, none⟩ (.slice vo5 Y.votes.length vc5)).setCell ⟨wr.heap.size + 1, 8, none⟩ (.slice no5 Y.next.length nc5)).setCell ⟨wr.heap.size + 1, 9, none⟩ (.slice ho5 Y.hav.length hc5)).setCell ⟨wr.heap.size, 0, none⟩ (.int .i64 p)).setCell ⟨wr.heap.size, 1, none⟩ (.int .i64 q9)) = wz at G9 ⊢
             (try clear fn0 fnz0 fn1 fnz1 fn2 fnz2 fn3 fnz3 fn4 fnz4 fn5 fnz5 fn6 fnz6 fn7 fnz7 fn8 fnz8 fn9 fnz9 fnl); (try clear ff0 ffz0 ff1 ffz1 ffl)
             go_wp2_with fail
             go_meet
             case rel => exact ⟨_, _, _, _, _, _, _, _, _, _, _, _, rfl, rfl, rfl, G9.out.le, G9.out.g1, G9.out.g2, G9.out.g5, G9.out.g6, G9.out.g4⟩)
          | (have hh : Hid (Blk w5 (wr.heap.size) 34 #[.int .i64 0, .int .i64 0, .int .i64 0, .int .i64 0, .slice none 0 0, .int .i64 0, .int .i64 0, .slice none 0 0, .slice none 0 0, .slice none 0 0]) := (by with_reducible exact HBN5)
             have g9 := r10_oneN (t2 := 26) (ys := #[.int .i64 p, .int .i64 q9]) (vs := [.int .i64 Y.n, .int .i64 Y.id, .int .i64 Y.term, .int .i64 Y.vote, .slice lo5 Y.log.length lc5, .int .i64 Y.role, .int .i64 Y.com, .slice vo5 Y.votes.length vc5, .slice no5 Y.next.length nc5, .slice ho5 Y.hav.length hc5]) HBN5.out rfl HAN1.out HOW1.out hbZ (by omega) (by omega)
             try simp only [setL] at g9
             have G9 := hide g9
             clear g9 HAN HOW hb5 k9 hbZ
             generalize (((((((((((w5.setCell ⟨wr.heap.size, 0, none⟩ (.int .i64 Y.n)).setCell ⟨wr.heap.size, 1, none⟩ (.int .i64 Y.id)).setCell ⟨wr.heap.size, 2, none⟩ (.int .i64 Y.term)).setCell ⟨wr.heap.size, 3, none⟩ (.int .i64 Y.vote)).setCell ⟨wr.heap.size, 4, none⟩ (.slice lo5 Y.log.length lc5)).setCell ⟨wr.heap.size, 5, none⟩ (.int .i64 Y.role)).setCell ⟨wr.heap.size, 6, none⟩ (.int .i64 Y.com)).setCell ⟨wr.heap.size, 7, none⟩ (.slice vo5 Y.votes.length vc5)).setCell ⟨wr.heap.size, 8, none⟩ (.slice no5 Y.next.length nc5)).setCell ⟨wr.heap.size, 9, none⟩ (.slice ho5 Y.hav.length hc5)).alloc (.cells #[.int .i64 p, .int .i64 q9] 26)) = wz at G9 ⊢
             (try clear fn0 fnz0 fn1 fnz1 fn2 fnz2 fn3 fnz3 fn4 fnz4 fn5 fnz5 fn6 fnz6 fn7 fnz7 fn8 fnz8 fn9 fnz9 fnl); (try clear ff0 ffz0 ff1 ffz1 ffl)
             go_wp2_with fail
             go_meet
             case rel => exact ⟨_, _, _, _, _, _, _, _, _, _, _, _, rfl, rfl, rfl, G9.out.le, G9.out.g1, G9.out.g2, G9.out.g5, G9.out.g6, G9.out.g4⟩)
          | (have hh : Hid (Blk w5 (wr.heap.size) 26 #[.int .i64 0, .int .i64 0]) := (by with_reducible exact HBF5)
             have g9 := r10_oneF (t1 := 34) (xs := #[.int .i64 Y.n, .int .i64 Y.id, .int .i64 Y.term, .int .i64 Y.vote, .slice lo5 Y.log.length lc5, .int .i64 Y.role, .int .i64 Y.com, .slice vo5 Y.votes.length vc5, .slice no5 Y.next.length nc5, .slice ho5 Y.hav.length hc5]) (us := [.int .i64 p, .int .i64 q9]) HBF5.out rfl HAN1.out HOW1.out hbZ (by omega) (by omega)
             try simp only [setL] at g9
             have G9 := hide g9
             clear g9 HAN HOW hb5 k9 hbZ
             generalize (((w5.setCell ⟨wr.heap.size, 0, none⟩ (.int .i64 p)).setCell ⟨wr.heap.size, 1, none⟩ (.int .i64 q9)).alloc (.cells #[.int .i64 Y.n, .int .i64 Y.id, .int .i64 Y.term, .int .i64 Y.vote, .slice lo5 Y.log.length lc5, .int .i64 Y.role, .int .i64 Y.com, .slice vo5 Y.votes.length vc5, .slice no5 Y.next.length nc5, .slice ho5 Y.hav.length hc5] 34)) = wz at G9 ⊢
             (try clear fn0 fnz0 fn1 fnz1 fn2 fnz2 fn3 fnz3 fn4 fnz4 fn5 fnz5 fn6 fnz6 fn7 fnz7 fn8 fnz8 fn9 fnz9 fnl); (try clear ff0 ffz0 ff1 ffz1 ffl)
             go_wp2_with fail
             go_meet
             case rel => exact ⟨_, _, _, _, _, _, _, _, _, _, _, _, rfl, rfl, rfl, G9.out.le, G9.out.g1, G9.out.g2, G9.out.g5, G9.out.g6, G9.out.g4⟩)
          | (have g9 := r10_noneNF (t1 := 34) (t2 := 26) (xs := #[.int .i64 Y.n, .int .i64 Y.id, .int .i64 Y.term, .int .i64 Y.vote, .slice lo5 Y.log.length lc5, .int .i64 Y.role, .int .i64 Y.com, .slice vo5 Y.votes.length vc5, .slice no5 Y.next.length nc5, .slice ho5 Y.hav.length hc5]) (ys := #[.int .i64 p, .int .i64 q9]) HAN0.out HOW0.out hbZ (by omega)
             try simp only [setL] at g9
             have G9 := hide g9
             clear g9 HAN HOW hb5 k9 hbZ
             generalize ((w5.alloc (.cells #[.int .i64 Y.n, .int .i64 Y.id, .int .i64 Y.term, .int .i64 Y.vote, .slice lo5 Y.log.length lc5, .int .i64 Y.role, .int .i64 Y.com, .slice vo5 Y.votes.length vc5, .slice no5 Y.next.length nc5, .slice ho5 Y.hav.length hc5] 34)).alloc (.cells #[.int .i64 p, .int .i64 q9] 26)) = wz at G9 ⊢
             (try clear fn0 fnz0 fn1 fnz1 fn2 fnz2 fn3 fnz3 fn4 fnz4 fn5 fnz5 fn6 fnz6 fn7 fnz7 fn8 fnz8 fn9 fnz9 fnl); (try clear ff0 ffz0 ff1 ffz1 ffl)
             go_wp2_with fail
             go_meet
             case rel => exact ⟨_, _, _, _, _, _, _, _, _, _, _, _, rfl, rfl, rfl, G9.out.le, G9.out.g1, G9.out.g2, G9.out.g5, G9.out.g6, G9.out.g4⟩)
          | (have g9 := r10_noneFN (t1 := 34) (t2 := 26) (xs := #[.int .i64 Y.n, .int .i64 Y.id, .int .i64 Y.term, .int .i64 Y.vote, .slice lo5 Y.log.length lc5, .int .i64 Y.role, .int .i64 Y.com, .slice vo5 Y.votes.length vc5, .slice no5 Y.next.length nc5, .slice ho5 Y.hav.length hc5]) (ys := #[.int .i64 p, .int .i64 q9]) HAN0.out HOW0.out hbZ (by omega)
             try simp only [setL] at g9
             have G9 := hide g9
             clear g9 HAN HOW hb5 k9 hbZ
             generalize ((w5.alloc (.cells #[.int .i64 p, .int .i64 q9] 26)).alloc (.cells #[.int .i64 Y.n, .int .i64 Y.id, .int .i64 Y.term, .int .i64 Y.vote, .slice lo5 Y.log.length lc5, .int .i64 Y.role, .int .i64 Y.com, .slice vo5 Y.votes.length vc5, .slice no5 Y.next.length nc5, .slice ho5 Y.hav.length hc5] 34)) = wz at G9 ⊢
             (try clear fn0 fnz0 fn1 fnz1 fn2 fnz2 fn3 fnz3 fn4 fnz4 fn5 fnz5 fn6 fnz6 fn7 fnz7 fn8 fnz8 fn9 fnz9 fnl); (try clear ff0 ffz0 ff1 ffz1 ffl)
             go_wp2_with fail
             go_meet
             case rel => exact ⟨_, _, _, _, _, _, _, _, _, _, _, _, rfl, rfl, rfl, G9.out.le, G9.out.g1, G9.out.g2, G9.out.g5, G9.out.g6, G9.out.g4⟩)
    case rest =>
      obtain ⟨BN, BF, lo5, lc5, vo5, vc5, no5, nc5, ho5, hc5, mo5, mc5, rfl, rfl, rfl, hBN, g1, g2, g5, g6, g4⟩ := hcut
      have HN5 := hide g1
      have HF5 := hide g2
      have HY5 := hide g5
      have HS5 := hide g6
      have HB5 := hide g4
      have HP5 := hide (HPX.out.later g4)
      have HX5 := hide (HRX.out.below g4)
      have HW5 := hide (HBR.out.trans (g4.mono HBR.out.size))
      have HPL := hide HPX.out.lt
      have f0 := g2.cell 0
      have fl := g2.lt
      simp at f0
      clear g1 g2 g5 g6 g4 HTK HKEEP HKN HKF HBN HBF HBA HA1 HA2 HA3 HA4 HA5 HA6 q0 q1 q2 q3 q4 q5 q6 q7 q8 p0 p1 p2 p3 p4 p5 p6 p7 p8 p9 pl HR1 hb1 HPX HRX HBR hk1 hk2
      by_cases hp : p ≠ 0
      · have hq1 : (p != 0) = true := by simp [hp]
        clear hp
        go_wp2_with fail
        go_roundw
        case rel => exact ⟨i + 1, X, _, _, _, _, _, _, _, _, by omega, by go_num, HFX.out, HP5.out, HX5.out, HW5.out⟩
        case measure => simp [intOf]; omega
      obtain rfl : p = 0 := Decidable.not_not.1 hp
      obtain ⟨_, hfm⟩ := HOK.out rfl
      obtain rfl : Y = X.take m := HTN.out rfl
      obtain rfl : SM = X.sends m := HTM.out rfl
      have HST := hide (take_stay HFX.out hfm)
      have HSE := hide (fun t ht => take_sends (s := t) HFX.out hfm ht)
      generalize X.take m = Y at *
      generalize X.sends m = SM at *
      clear hp hfm HOK HTN HTM
      have hst := HST.out
      have c0 := HFX.out.c0
      have c1 := HFX.out.cl
      have c2 := hst.fine.cl
      have c3 := hst.com
      have hlY : X.com.toNat ≤ Y.log.length := by omega
      obtain ⟨_, _, hcl5, hc5a, hc5b⟩ := HY5.out.rd.log.shape
      simp only [Value.slice.injEq] at hcl5
      obtain ⟨rfl, _, rfl⟩ := hcl5
      obtain ⟨_, _, hcl0, hc0a, hc0b⟩ := HX5.out.log.shape
      simp only [Value.slice.injEq] at hcl0
      obtain ⟨rfl, _, rfl⟩ := hcl0
      have hs1 := run_slice_uptoK (K := 2) (P := Try.prog) Try.underlying22 (by kernel_rfl) infoEntry lo5 Y.log.length lc5 X.com.toNat X.com (by omega) (by omega)
      have hr1 := HY5.out.rd.log.upto (hi := X.com.toNat) hlY
      obtain ⟨t1, ht1⟩ : ∃ x, Go.sliced lo5 0 X.com.toNat lc5 2 = x := ⟨_, rfl⟩
      have hs2 := run_slice_uptoK (K := 2) (P := Try.prog) Try.underlying22 (by kernel_rfl) infoEntry lo0 X.log.length lc0 X.com.toNat X.com (by omega) (by omega)
      have hr2 := HX5.out.log.upto (hi := X.com.toNat) (by omega)
      obtain ⟨t2, ht2⟩ : ∃ x, Go.sliced lo0 0 X.com.toNat lc0 2 = x := ⟨_, rfl⟩
      rw [ht1] at hs1 hr1
      rw [ht2] at hs2 hr2
      rw [hst.log] at hr1
      obtain ⟨a1, z1, hy1, _, _⟩ := hr1.shape
      obtain ⟨a2, z2, hy2, _, _⟩ := hr2.shape
      subst hy1 hy2
      obtain ⟨wd, hwd⟩ : ∃ wd, wd = wc := ⟨_, rfl⟩
      subst hwd
      have HDR := hide (show Below wd.heap.size wd wd.drew from Below.drew (Below.refl _ _))
      have HCK := hide ((RCheck_any Y (.slice lo5 Y.log.length lc5) (.slice vo5 Y.votes.length vc5) (.slice no5 Y.next.length nc5) (.slice ho5 Y.hav.length hc5) wd.drew (HY5.out.rd.below HDR.out) HST.out.fine.wf).mono fun e W' (h2 : _ ∧ _) => And.intro h2.1 (HDR.out.trans (h2.2.mono HDR.out.size)))
      rw [chkN_of HST.out.fine] at HCK
      unfold ndV ndA flt at HCK
      have HSL := hide (fun W (h : Below wd.heap.size wd W) => (SameLog_any _ _ _ W (hr1.below h) (hr2.below h)).mono fun e W' (h2 : _ ∧ _) => And.intro h2.1 (h.trans (h2.2.mono h.size)))
      have HKEEP : Hid (∀ W, Below wd.heap.size wd W → W.cell? ⟨BN, 0, none⟩ = some (.int .i64 Y.n) ∧ W.cell? ⟨BN, 1, none⟩ = some (.int .i64 Y.id) ∧ W.cell? ⟨BN, 2, none⟩ = some (.int .i64 Y.term) ∧ W.cell? ⟨BN, 3, none⟩ = some (.int .i64 Y.vote) ∧ W.cell? ⟨BN, 4, none⟩ = some (.slice lo5 Y.log.length lc5) ∧ W.cell? ⟨BN, 5, none⟩ = some (.int .i64 Y.role) ∧ W.cell? ⟨BN, 6, none⟩ = some (.int .i64 Y.com) ∧ W.cell? ⟨BN, 7, none⟩ = some (.slice vo5 Y.votes.length vc5) ∧ W.cell? ⟨BN, 8, none⟩ = some (.slice no5 Y.next.length nc5) ∧ W.cell? ⟨BN, 9, none⟩ = some (.slice ho5 Y.hav.length hc5) ∧ W.cell? ⟨w.heap.size, 0, none⟩ = some (.int .i64 X.n) ∧ W.cell? ⟨w.heap.size, 1, none⟩ = some (.int .i64 X.id) ∧ W.cell? ⟨w.heap.size, 2, none⟩ = some (.int .i64 X.term) ∧ W.cell? ⟨w.heap.size, 3, none⟩ = some (.int .i64 X.vote) ∧ W.cell? ⟨w.heap.size, 4, none⟩ = some (.slice lo0 X.log.length lc0) ∧ W.cell? ⟨w.heap.size, 6, none⟩ = some (.int .i64 X.com)) := hide (fun W hW => ⟨(HN5.out.later hW).cell 0, (HN5.out.later hW).cell 1, (HN5.out.later hW).cell 2, (HN5.out.later hW).cell 3, (HN5.out.later hW).cell 4, (HN5.out.later hW).cell 5, (HN5.out.later hW).cell 6, (HN5.out.later hW).cell 7, (HN5.out.later hW).cell 8, (HN5.out.later hW).cell 9, (HP5.out.later hW).cell 0, (HP5.out.later hW).cell 1, (HP5.out.later hW).cell 2, (HP5.out.later hW).cell 3, (HP5.out.later hW).cell 4, (HP5.out.later hW).cell 6⟩)
      have yl := HN5.out.lt
      have xl := HP5.out.lt
      have d1 : (Y.id != X.id) = false := by simp [hst.id]
      have d2 : (Y.n != X.n) = false := by simp [hst.n]
      have d3 : decide (Y.term < X.term) = false := decide_eq_false (by have := hst.term; omega)
      have d4 : decide (Y.com < X.com) = false := decide_eq_false (by omega)
      have d5 : decide ((Y.log.length : Int) < Y.com) = false := decide_eq_false (by omega)
      have d6 : decide ((X.log.length : Int) < X.com) = false := decide_eq_false (by omega)
      have i1 : (0 : Int) ≤ X.com := c0
      have i2 : X.com ≤ (lc5 : Int) := by omega
      have i3 : X.com ≤ (lc0 : Int) := by omega
      have HVT := hide hst.vote
      generalize X.log.take X.com.toNat = LT at *
      clear hst c0 c1 c2 c3 hlY hr1 hr2 ht1 ht2 hc5a hc5b hc0a hc0b
      go_upto_region 12 with fail
      try dsimp only [Act.put]
      go_cut [130] (fun b w7 => b = .bool false ∧ Below wd.heap.size wd w7)
      case first =>
        clear HS5 HSE HB5 HX5 HW5 HPL HF5 f0 fl HFX HST HMS hs1' hs2' hl hq hqn hlt hi hBN
        rename_i k1 a3 k0 a2 j0 j1 a1 a0
        clear a3 a2
        dsimp only [List.append]
        by_cases e1 : Y.term = X.term
        case neg =>
          have v1 : (Y.term == X.term) = false := beq_eq_false_iff_ne.2 e1
          clear e1 HVT
          as_aux_lemma =>
            refine wp_region_heldD (S := fun W => W.cell? ⟨BN, 0, none⟩ = some (.int .i64 Y.n) ∧ W.cell? ⟨BN, 1, none⟩ = some (.int .i64 Y.id) ∧ W.cell? ⟨BN, 2, none⟩ = some (.int .i64 Y.term) ∧ W.cell? ⟨BN, 3, none⟩ = some (.int .i64 Y.vote) ∧ W.cell? ⟨BN, 4, none⟩ = some (.slice lo5 Y.log.length lc5) ∧ W.cell? ⟨BN, 5, none⟩ = some (.int .i64 Y.role) ∧ W.cell? ⟨BN, 6, none⟩ = some (.int .i64 Y.com) ∧ W.cell? ⟨BN, 7, none⟩ = some (.slice vo5 Y.votes.length vc5) ∧ W.cell? ⟨BN, 8, none⟩ = some (.slice no5 Y.next.length nc5) ∧ W.cell? ⟨BN, 9, none⟩ = some (.slice ho5 Y.hav.length hc5) ∧ W.cell? ⟨w.heap.size, 0, none⟩ = some (.int .i64 X.n) ∧ W.cell? ⟨w.heap.size, 1, none⟩ = some (.int .i64 X.id) ∧ W.cell? ⟨w.heap.size, 2, none⟩ = some (.int .i64 X.term) ∧ W.cell? ⟨w.heap.size, 3, none⟩ = some (.int .i64 X.vote) ∧ W.cell? ⟨w.heap.size, 4, none⟩ = some (.slice lo0 X.log.length lc0) ∧ W.cell? ⟨w.heap.size, 6, none⟩ = some (.int .i64 X.com)) (n := 81) (l := (upB 81 0).toArray) (by kernel_rfl) (by kernel_rfl) (by kernel_rfl) (by kernel_rfl) (HKEEP.out _ HDR.out) (fun HNS hHeld => ?_)
            refine wpAnyH_takeD (l' := (upB 81 1).toArray) (i := 0) (fuel := 80) (v := ?v1x0) rfl HNS.out (by kernel_rfl) (by kernel_rfl) (by kernel_rfl) (fun _ _ _ h => h) (by kernel_rfl) ?y1x0 hHeld ?r1x0
            case y1x0 => (intro W hSw; (try dsimp only at hSw); go_simp; first | done | with_reducible rfl)
            try simp only [Act.put, List.setIfInBounds_toArray, List.set_cons_zero, List.set_cons_succ]
            refine wpAnyH_oneD (l' := (upB 81 2).toArray) (i := 1) (fuel := 79) rfl (by kernel_rfl) (by kernel_rfl) (fun Kc hK => ?_)
            go_simp
            go_at_call 15
            refine HCK.out.mono ?_
            rintro e w6 ⟨rfl, hb6⟩
            have k6 := HKEEP.out w6 hb6
            go_wp2_with fail
            refine hK.out _ _ k6 (fun _ => ?_)
            clear hK Kc
            try simp only [Act.put, List.setIfInBounds_toArray, List.set_cons_zero, List.set_cons_succ]
            refine wpAnyH_takeD (l' := (upB 81 3).toArray) (i := 2) (fuel := 78) (v := ?v1x2) rfl HNS.out (by kernel_rfl) (by kernel_rfl) (by kernel_rfl) (fun _ _ _ h => h) (by kernel_rfl) ?y1x2 k6 ?r1x2
            case y1x2 => (intro W hSw; go_simp; first | done | with_reducible rfl)
            try simp only [Act.put, List.setIfInBounds_toArray, List.set_cons_zero, List.set_cons_succ]
            refine wpAnyH_takeD (l' := (upB 81 4).toArray) (i := 3) (fuel := 77) (v := ?v1x3) rfl HNS.out (by kernel_rfl) (by kernel_rfl) (by kernel_rfl) (fun _ _ _ h => h) (by kernel_rfl) ?y1x3 k6 ?r1x3
            case y1x3 => (intro W hSw; go_simp; first | done | with_reducible rfl)
            try simp only [Act.put, List.setIfInBounds_toArray, List.set_cons_zero, List.set_cons_succ]
            refine wpAnyH_takeD (l' := (upB 81 5).toArray) (i := 4) (fuel := 76) (v := ?v1x4) rfl HNS.out (by kernel_rfl) (by kernel_rfl) (by kernel_rfl) (fun _ _ _ h => h) (by kernel_rfl) ?y1x4 k6 ?r1x4
            case y1x4 => (intro W hSw; go_simp; first | done | with_reducible rfl)
            try simp only [Act.put, List.setIfInBounds_toArray, List.set_cons_zero, List.set_cons_succ]
            refine wpAnyH_takeD (l' := (upB 81 6).toArray) (i := 5) (fuel := 75) (v := ?v1x5) rfl HNS.out (by kernel_rfl) (by kernel_rfl) (by kernel_rfl) (fun _ _ _ h => h) (by kernel_rfl) ?y1x5 k6 ?r1x5
            case y1x5 => (intro W hSw; go_simp; first | done | with_reducible rfl)
            try simp only [Act.put, List.setIfInBounds_toArray, List.set_cons_zero, List.set_cons_succ]
            refine wpAnyH_takeD (l' := (upB 81 7).toArray) (i := 6) (fuel := 74) (v := ?v1x6) rfl HNS.out (by kernel_rfl) (by kernel_rfl) (by kernel_rfl) (fun _ _ _ h => h) (by kernel_rfl) ?y1x6 k6 ?r1x6
            case y1x6 => (intro W hSw; (try dsimp only at hSw); go_simp; first | done | with_reducible rfl)
            try simp only [Act.put, List.setIfInBounds_toArray, List.set_cons_zero, List.set_cons_succ]
            refine wpAnyH_takeD (l' := (upB 81 8).toArray) (i := 7) (fuel := 73) (v := ?v1x7) rfl HNS.out (by kernel_rfl) (by kernel_rfl) (by kernel_rfl) (fun _ _ _ h => h) (by kernel_rfl) ?y1x7 k6 ?r1x7
            case y1x7 => (intro W hSw; go_simp; first | done | with_reducible rfl)
            try simp only [Act.put, List.setIfInBounds_toArray, List.set_cons_zero, List.set_cons_succ]
            refine wpAnyH_takeD (l' := (upB 81 9).toArray) (i := 8) (fuel := 72) (v := ?v1x8) rfl HNS.out (by kernel_rfl) (by kernel_rfl) (by kernel_rfl) (fun _ _ _ h => h) (by kernel_rfl) ?y1x8 k6 ?r1x8
            case y1x8 => (intro W hSw; (try dsimp only at hSw); go_simp; first | done | with_reducible rfl)
            try simp only [Act.put, List.setIfInBounds_toArray, List.set_cons_zero, List.set_cons_succ]
            refine wpAnyH_takeD (l' := (upB 81 10).toArray) (i := 9) (fuel := 71) (v := ?v1x9) rfl HNS.out (by kernel_rfl) (by kernel_rfl) (by kernel_rfl) (fun _ _ _ h => h) (by kernel_rfl) ?y1x9 k6 ?r1x9
            case y1x9 => (intro W hSw; go_simp; first | done | with_reducible rfl)
            try simp only [Act.put, List.setIfInBounds_toArray, List.set_cons_zero, List.set_cons_succ]
            refine wpAnyH_takeD (l' := (upB 81 11).toArray) (i := 10) (fuel := 70) (v := ?v1x10) rfl HNS.out (by kernel_rfl) (by kernel_rfl) (by kernel_rfl) (fun _ _ _ h => h) (by kernel_rfl) ?y1x10 k6 ?r1x10
            case y1x10 => (intro W hSw; go_simp; first | done | with_reducible rfl)
            try simp only [Act.put, List.setIfInBounds_toArray, List.set_cons_zero, List.set_cons_succ]
            refine wpAnyH_takeD (l' := (upB 81 12).toArray) (i := 11) (fuel := 69) (v := ?v1x11) rfl HNS.out (by kernel_rfl) (by kernel_rfl) (by kernel_rfl) (fun _ _ _ h => h) (by kernel_rfl) ?y1x11 k6 ?r1x11
            case y1x11 => (intro W hSw; go_simp; first | done | with_reducible rfl)
            try simp only [Act.put, List.setIfInBounds_toArray, List.set_cons_zero, List.set_cons_succ]
            refine wpAnyH_takeD (l' := (upB 81 13).toArray) (i := 12) (fuel := 68) (v := ?v1x12) rfl HNS.out (by kernel_rfl) (by kernel_rfl) (by kernel_rfl) (fun _ _ _ h => h) (by kernel_rfl) ?y1x12 k6 ?r1x12
            case y1x12 => (intro W hSw; go_simp; first | done | with_reducible rfl)
            try simp only [Act.put, List.setIfInBounds_toArray, List.set_cons_zero, List.set_cons_succ]
            refine wpAnyH_takeD (l' := (upB 81 14).toArray) (i := 13) (fuel := 67) (v := ?v1x13) rfl HNS.out (by kernel_rfl) (by kernel_rfl) (by kernel_rfl) (fun _ _ _ h => h) (by kernel_rfl) ?y1x13 k6 ?r1x13
            case y1x13 => (intro W hSw; (try dsimp only at hSw); go_simp; first | done | with_reducible rfl)
            try simp only [Act.put, List.setIfInBounds_toArray, List.set_cons_zero, List.set_cons_succ]
            refine wpAnyH_takeD (l' := (upB 81 15).toArray) (i := 14) (fuel := 66) (v := ?v1x14) rfl HNS.out (by kernel_rfl) (by kernel_rfl) (by kernel_rfl) (fun _ _ _ h => h) (by kernel_rfl) ?y1x14 k6 ?r1x14
            case y1x14 => (intro W hSw; go_simp; first | done | with_reducible rfl)
            try simp only [Act.put, List.setIfInBounds_toArray, List.set_cons_zero, List.set_cons_succ]
            refine wpAnyH_takeD (l' := (upB 81 16).toArray) (i := 15) (fuel := 65) (v := ?v1x15) rfl HNS.out (by kernel_rfl) (by kernel_rfl) (by kernel_rfl) (fun _ _ _ h => h) (by kernel_rfl) ?y1x15 k6 ?r1x15
            case y1x15 => (intro W hSw; (try dsimp only at hSw); go_simp; first | done | with_reducible rfl)
            try simp only [Act.put, List.setIfInBounds_toArray, List.set_cons_zero, List.set_cons_succ]
            refine wpAnyH_takeD (l' := (upB 81 17).toArray) (i := 16) (fuel := 64) (v := ?v1x16) rfl HNS.out (by kernel_rfl) (by kernel_rfl) (by kernel_rfl) (fun _ _ _ h => h) (by kernel_rfl) ?y1x16 k6 ?r1x16
            case y1x16 => (intro W hSw; go_simp; first | done | with_reducible rfl)
            try simp only [Act.put, List.setIfInBounds_toArray, List.set_cons_zero, List.set_cons_succ]
            refine wpAnyH_takeD (l' := (upB 81 18).toArray) (i := 17) (fuel := 63) (v := ?v1x17) rfl HNS.out (by kernel_rfl) (by kernel_rfl) (by kernel_rfl) (fun _ _ _ h => h) (by kernel_rfl) ?y1x17 k6 ?r1x17
            case y1x17 => (intro W hSw; go_simp; first | done | with_reducible rfl)
            try simp only [Act.put, List.setIfInBounds_toArray, List.set_cons_zero, List.set_cons_succ]
            refine wpAnyH_takeD (l' := (upB 81 19).toArray) (i := 18) (fuel := 62) (v := ?v1x18) rfl HNS.out (by kernel_rfl) (by kernel_rfl) (by kernel_rfl) (fun _ _ _ h => h) (by kernel_rfl) ?y1x18 k6 ?r1x18
            case y1x18 => (intro W hSw; go_simp; first | done | with_reducible rfl)
            try simp only [Act.put, List.setIfInBounds_toArray, List.set_cons_zero, List.set_cons_succ]
            refine wpAnyH_takeD (l' := (upB 81 20).toArray) (i := 19) (fuel := 61) (v := ?v1x19) rfl HNS.out (by kernel_rfl) (by kernel_rfl) (by kernel_rfl) (fun _ _ _ h => h) (by kernel_rfl) ?y1x19 k6 ?r1x19
            case y1x19 => (intro W hSw; go_simp; first | done | with_reducible rfl)
            try simp only [Act.put, List.setIfInBounds_toArray, List.set_cons_zero, List.set_cons_succ]
            refine wpAnyH_takeD (l' := (upB 81 21).toArray) (i := 20) (fuel := 60) (v := ?v1x20) rfl HNS.out (by kernel_rfl) (by kernel_rfl) (by kernel_rfl) (fun _ _ _ h => h) (by kernel_rfl) ?y1x20 k6 ?r1x20
            case y1x20 => (intro W hSw; (try dsimp only at hSw); go_simp; first | done | with_reducible rfl)
            try simp only [Act.put, List.setIfInBounds_toArray, List.set_cons_zero, List.set_cons_succ]
            refine wpAnyH_takeD (l' := (upB 81 22).toArray) (i := 21) (fuel := 59) (v := ?v1x21) rfl HNS.out (by kernel_rfl) (by kernel_rfl) (by kernel_rfl) (fun _ _ _ h => h) (by kernel_rfl) ?y1x21 k6 ?r1x21
            case y1x21 => (intro W hSw; go_simp; first | done | with_reducible rfl)
            try simp only [Act.put, List.setIfInBounds_toArray, List.set_cons_zero, List.set_cons_succ]
            refine wpAnyH_takeD (l' := (upB 81 23).toArray) (i := 22) (fuel := 58) (v := ?v1x22) rfl HNS.out (by kernel_rfl) (by kernel_rfl) (by kernel_rfl) (fun _ _ _ h => h) (by kernel_rfl) ?y1x22 k6 ?r1x22
            case y1x22 => (intro W hSw; (try dsimp only at hSw); go_simp; first | done | with_reducible rfl)
            try simp only [Act.put, List.setIfInBounds_toArray, List.set_cons_zero, List.set_cons_succ]
            refine wpAnyH_takeD (l' := (upB 81 24).toArray) (i := 23) (fuel := 57) (v := ?v1x23) rfl HNS.out (by kernel_rfl) (by kernel_rfl) (by kernel_rfl) (fun _ _ _ h => h) (by kernel_rfl) ?y1x23 k6 ?r1x23
            case y1x23 => (intro W hSw; go_simp; first | done | with_reducible rfl)
            try simp only [Act.put, List.setIfInBounds_toArray, List.set_cons_zero, List.set_cons_succ]
            refine wpAnyH_takeD (l' := (upB 81 25).toArray) (i := 24) (fuel := 56) (v := ?v1x24) rfl HNS.out (by kernel_rfl) (by kernel_rfl) (by kernel_rfl) (fun _ _ _ h => h) (by kernel_rfl) ?y1x24 k6 ?r1x24
            case y1x24 => (intro W hSw; go_simp; first | done | with_reducible rfl)
            try simp only [Act.put, List.setIfInBounds_toArray, List.set_cons_zero, List.set_cons_succ]
            refine wpAnyH_takeD (l' := (upB 81 26).toArray) (i := 25) (fuel := 55) (v := ?v1x25) rfl HNS.out (by kernel_rfl) (by kernel_rfl) (by kernel_rfl) (fun _ _ _ h => h) (by kernel_rfl) ?y1x25 k6 ?r1x25
            case y1x25 => (intro W hSw; go_simp; first | done | with_reducible rfl)
            try simp only [Act.put, List.setIfInBounds_toArray, List.set_cons_zero, List.set_cons_succ]
            refine wpAnyH_takeD (l' := (upB 81 27).toArray) (i := 26) (fuel := 54) (v := ?v1x26) rfl HNS.out (by kernel_rfl) (by kernel_rfl) (by kernel_rfl) (fun _ _ _ h => h) (by kernel_rfl) ?y1x26 k6 ?r1x26
            case y1x26 => (intro W hSw; go_simp; first | done | with_reducible rfl)
            try simp only [Act.put, List.setIfInBounds_toArray, List.set_cons_zero, List.set_cons_succ]
            refine wpAnyH_takeD (l' := (upB 81 28).toArray) (i := 27) (fuel := 53) (v := ?v1x27) rfl HNS.out (by kernel_rfl) (by kernel_rfl) (by kernel_rfl) (fun _ _ _ h => h) (by kernel_rfl) ?y1x27 k6 ?r1x27
            case y1x27 => (intro W hSw; (try dsimp only at hSw); go_simp; first | done | with_reducible rfl)
            try simp only [Act.put, List.setIfInBounds_toArray, List.set_cons_zero, List.set_cons_succ]
            refine wpAnyH_takeD (l' := (upB 81 29).toArray) (i := 28) (fuel := 52) (v := ?v1x28) rfl HNS.out (by kernel_rfl) (by kernel_rfl) (by kernel_rfl) (fun _ _ _ h => h) (by kernel_rfl) ?y1x28 k6 ?r1x28
            case y1x28 => (intro W hSw; go_simp; first | done | with_reducible rfl)
            try simp only [Act.put, List.setIfInBounds_toArray, List.set_cons_zero, List.set_cons_succ]
            refine wpAnyH_takeD (l' := (upB 81 30).toArray) (i := 29) (fuel := 51) (v := ?v1x29) rfl HNS.out (by kernel_rfl) (by kernel_rfl) (by kernel_rfl) (fun _ _ _ h => h) (by kernel_rfl) ?y1x29 k6 ?r1x29
            case y1x29 => (intro W hSw; (try dsimp only at hSw); go_simp; first | done | with_reducible rfl)
            try simp only [Act.put, List.setIfInBounds_toArray, List.set_cons_zero, List.set_cons_succ]
            refine wpAnyH_takeD (l' := (upB 81 31).toArray) (i := 30) (fuel := 50) (v := ?v1x30) rfl HNS.out (by kernel_rfl) (by kernel_rfl) (by kernel_rfl) (fun _ _ _ h => h) (by kernel_rfl) ?y1x30 k6 ?r1x30
            case y1x30 => (intro W hSw; go_simp; first | done | with_reducible rfl)
            try simp only [Act.put, List.setIfInBounds_toArray, List.set_cons_zero, List.set_cons_succ]
            refine wpAnyH_takeD (l' := (upB 81 32).toArray) (i := 31) (fuel := 49) (v := ?v1x31) rfl HNS.out (by kernel_rfl) (by kernel_rfl) (by kernel_rfl) (fun _ _ _ h => h) (by kernel_rfl) ?y1x31 k6 ?r1x31
            case y1x31 => (intro W hSw; go_simp; first | done | with_reducible rfl)
            try simp only [Act.put, List.setIfInBounds_toArray, List.set_cons_zero, List.set_cons_succ]
            refine wpAnyH_skipD (l' := (upB 81 33).toArray) (i := 32) (fuel := 48) rfl HNS.out (by kernel_rfl) (by kernel_rfl) (by kernel_rfl) (fun _ _ _ h => h) (by kernel_rfl) k6 ?_
            try simp only [Act.put, List.setIfInBounds_toArray, List.set_cons_zero, List.set_cons_succ]
            refine wpAnyH_skipD (l' := (upB 81 34).toArray) (i := 33) (fuel := 47) rfl HNS.out (by kernel_rfl) (by kernel_rfl) (by kernel_rfl) (fun _ _ _ h => h) (by kernel_rfl) k6 ?_
            try simp only [Act.put, List.setIfInBounds_toArray, List.set_cons_zero, List.set_cons_succ]
            refine wpAnyH_skipD (l' := (upB 81 35).toArray) (i := 34) (fuel := 46) rfl HNS.out (by kernel_rfl) (by kernel_rfl) (by kernel_rfl) (fun _ _ _ h => h) (by kernel_rfl) k6 ?_
            try simp only [Act.put, List.setIfInBounds_toArray, List.set_cons_zero, List.set_cons_succ]
            refine wpAnyH_takeD (l' := (upB 81 36).toArray) (i := 35) (fuel := 45) (v := ?v1x35) rfl HNS.out (by kernel_rfl) (by kernel_rfl) (by kernel_rfl) (fun _ _ _ h => h) (by kernel_rfl) ?y1x35 k6 ?r1x35
            case y1x35 => (intro W hSw; go_simp; first | done | with_reducible rfl)
            try simp only [Act.put, List.setIfInBounds_toArray, List.set_cons_zero, List.set_cons_succ]
            refine wpAnyH_takeD (l' := (upB 81 37).toArray) (i := 36) (fuel := 44) (v := ?v1x36) rfl HNS.out (by kernel_rfl) (by kernel_rfl) (by kernel_rfl) (fun _ _ _ h => h) (by kernel_rfl) ?y1x36 k6 ?r1x36
            case y1x36 => (intro W hSw; go_simp; first | done | with_reducible rfl)
            try simp only [Act.put, List.setIfInBounds_toArray, List.set_cons_zero, List.set_cons_succ]
            refine wpAnyH_skipD (l' := (upB 81 38).toArray) (i := 37) (fuel := 43) rfl HNS.out (by kernel_rfl) (by kernel_rfl) (by kernel_rfl) (fun _ _ _ h => h) (by kernel_rfl) k6 ?_
            try simp only [Act.put, List.setIfInBounds_toArray, List.set_cons_zero, List.set_cons_succ]
            refine wpAnyH_skipD (l' := (upB 81 39).toArray) (i := 38) (fuel := 42) rfl HNS.out (by kernel_rfl) (by kernel_rfl) (by kernel_rfl) (fun _ _ _ h => h) (by kernel_rfl) k6 ?_
            try simp only [Act.put, List.setIfInBounds_toArray, List.set_cons_zero, List.set_cons_succ]
            refine wpAnyH_skipD (l' := (upB 81 40).toArray) (i := 39) (fuel := 41) rfl HNS.out (by kernel_rfl) (by kernel_rfl) (by kernel_rfl) (fun _ _ _ h => h) (by kernel_rfl) k6 ?_
            try simp only [Act.put, List.setIfInBounds_toArray, List.set_cons_zero, List.set_cons_succ]
            refine wpAnyH_skipD (l' := (upB 81 41).toArray) (i := 40) (fuel := 40) rfl HNS.out (by kernel_rfl) (by kernel_rfl) (by kernel_rfl) (fun _ _ _ h => h) (by kernel_rfl) k6 ?_
            try simp only [Act.put, List.setIfInBounds_toArray, List.set_cons_zero, List.set_cons_succ]
            refine wpAnyH_skipD (l' := (upB 81 42).toArray) (i := 41) (fuel := 39) rfl HNS.out (by kernel_rfl) (by kernel_rfl) (by kernel_rfl) (fun _ _ _ h => h) (by kernel_rfl) k6 ?_
            try simp only [Act.put, List.setIfInBounds_toArray, List.set_cons_zero, List.set_cons_succ]
            refine wpAnyH_takeD (l' := (upB 81 43).toArray) (i := 42) (fuel := 38) (v := ?v1x42) rfl HNS.out (by kernel_rfl) (by kernel_rfl) (by kernel_rfl) (fun _ _ _ h => h) (by kernel_rfl) ?y1x42 k6 ?r1x42
            case y1x42 => (intro W hSw; go_simp; first | done | with_reducible rfl)
            try simp only [Act.put, List.setIfInBounds_toArray, List.set_cons_zero, List.set_cons_succ]
            refine wpAnyH_takeD (l' := (upB 81 44).toArray) (i := 43) (fuel := 37) (v := ?v1x43) rfl HNS.out (by kernel_rfl) (by kernel_rfl) (by kernel_rfl) (fun _ _ _ h => h) (by kernel_rfl) ?y1x43 k6 ?r1x43
            case y1x43 => (intro W hSw; go_simp; first | done | with_reducible rfl)
            try simp only [Act.put, List.setIfInBounds_toArray, List.set_cons_zero, List.set_cons_succ]
            refine wpAnyH_takeD (l' := (upB 81 45).toArray) (i := 44) (fuel := 36) (v := ?v1x44) rfl HNS.out (by kernel_rfl) (by kernel_rfl) (by kernel_rfl) (fun _ _ _ h => h) (by kernel_rfl) ?y1x44 k6 ?r1x44
            case y1x44 => (intro W hSw; go_simp; first | done | with_reducible rfl)
            try simp only [Act.put, List.setIfInBounds_toArray, List.set_cons_zero, List.set_cons_succ]
            refine wpAnyH_takeD (l' := (upB 81 46).toArray) (i := 45) (fuel := 35) (v := ?v1x45) rfl HNS.out (by kernel_rfl) (by kernel_rfl) (by kernel_rfl) (fun _ _ _ h => h) (by kernel_rfl) ?y1x45 k6 ?r1x45
            case y1x45 => (intro W hSw; go_simp; first | done | with_reducible rfl)
            try simp only [Act.put, List.setIfInBounds_toArray, List.set_cons_zero, List.set_cons_succ]
            refine wpAnyH_takeD (l' := (upB 81 47).toArray) (i := 46) (fuel := 34) (v := ?v1x46) rfl HNS.out (by kernel_rfl) (by kernel_rfl) (by kernel_rfl) (fun _ _ _ h => h) (by kernel_rfl) ?y1x46 k6 ?r1x46
            case y1x46 => (intro W hSw; (try dsimp only at hSw); go_simp; first | done | with_reducible rfl)
            try simp only [Act.put, List.setIfInBounds_toArray, List.set_cons_zero, List.set_cons_succ]
            refine wpAnyH_takeD (l' := (upB 81 48).toArray) (i := 47) (fuel := 33) (v := ?v1x47) rfl HNS.out (by kernel_rfl) (by kernel_rfl) (by kernel_rfl) (fun _ _ _ h => h) (by kernel_rfl) ?y1x47 k6 ?r1x47
            case y1x47 => (intro W hSw; go_simp; first | done | with_reducible rfl)
            try simp only [Act.put, List.setIfInBounds_toArray, List.set_cons_zero, List.set_cons_succ]
            refine wpAnyH_takeD (l' := (upB 81 49).toArray) (i := 48) (fuel := 32) (v := ?v1x48) rfl HNS.out (by kernel_rfl) (by kernel_rfl) (by kernel_rfl) (fun _ _ _ h => h) (by kernel_rfl) ?y1x48 k6 ?r1x48
            case y1x48 => (intro W hSw; (try dsimp only at hSw); go_simp; first | done | with_reducible rfl)
            try simp only [Act.put, List.setIfInBounds_toArray, List.set_cons_zero, List.set_cons_succ]
            refine wpAnyH_takeD (l' := (upB 81 50).toArray) (i := 49) (fuel := 31) (v := ?v1x49) rfl HNS.out (by kernel_rfl) (by kernel_rfl) (by kernel_rfl) (fun _ _ _ h => h) (by kernel_rfl) ?y1x49 k6 ?r1x49
            case y1x49 => (intro W hSw; go_simp; first | done | with_reducible rfl)
            try simp only [Act.put, List.setIfInBounds_toArray, List.set_cons_zero, List.set_cons_succ]
            refine wpAnyH_takeD (l' := (upB 81 51).toArray) (i := 50) (fuel := 30) (v := ?v1x50) rfl HNS.out (by kernel_rfl) (by kernel_rfl) (by kernel_rfl) (fun _ _ _ h => h) (by kernel_rfl) ?y1x50 k6 ?r1x50
            case y1x50 => (intro W hSw; go_simp; first | done | with_reducible rfl)
            try simp only [Act.put, List.setIfInBounds_toArray, List.set_cons_zero, List.set_cons_succ]
            refine wpAnyH_takeD (l' := (upB 81 52).toArray) (i := 51) (fuel := 29) (v := ?v1x51) rfl HNS.out (by kernel_rfl) (by kernel_rfl) (by kernel_rfl) (fun _ _ _ h => h) (by kernel_rfl) ?y1x51 k6 ?r1x51
            case y1x51 => (intro W hSw; go_simp; first | done | with_reducible rfl)
            try simp only [Act.put, List.setIfInBounds_toArray, List.set_cons_zero, List.set_cons_succ]
            refine wpAnyH_takeD (l' := (upB 81 53).toArray) (i := 52) (fuel := 28) (v := ?v1x52) rfl HNS.out (by kernel_rfl) (by kernel_rfl) (by kernel_rfl) (fun _ _ _ h => h) (by kernel_rfl) ?y1x52 k6 ?r1x52
            case y1x52 => (intro W hSw; go_simp; first | done | with_reducible rfl)
            try simp only [Act.put, List.setIfInBounds_toArray, List.set_cons_zero, List.set_cons_succ]
            refine wpAnyH_takeD (l' := (upB 81 54).toArray) (i := 53) (fuel := 27) (v := ?v1x53) rfl HNS.out (by kernel_rfl) (by kernel_rfl) (by kernel_rfl) (fun _ _ _ h => h) (by kernel_rfl) ?y1x53 k6 ?r1x53
            case y1x53 => (intro W hSw; (try dsimp only at hSw); go_simp; first | done | with_reducible rfl)
            try simp only [Act.put, List.setIfInBounds_toArray, List.set_cons_zero, List.set_cons_succ]
            refine wpAnyH_takeD (l' := (upB 81 55).toArray) (i := 54) (fuel := 26) (v := ?v1x54) rfl HNS.out (by kernel_rfl) (by kernel_rfl) (by kernel_rfl) (fun _ _ _ h => h) (by kernel_rfl) ?y1x54 k6 ?r1x54
            case y1x54 => (intro W hSw; go_simp; first | done | with_reducible rfl)
            try simp only [Act.put, List.setIfInBounds_toArray, List.set_cons_zero, List.set_cons_succ]
            refine wpAnyH_takeD (l' := (upB 81 56).toArray) (i := 55) (fuel := 25) (v := ?v1x55) rfl HNS.out (by kernel_rfl) (by kernel_rfl) (by kernel_rfl) (fun _ _ _ h => h) (by kernel_rfl) ?y1x55 k6 ?r1x55
            case y1x55 => (intro W hSw; (try dsimp only at hSw); go_simp; first | done | with_reducible rfl)
            try simp only [Act.put, List.setIfInBounds_toArray, List.set_cons_zero, List.set_cons_succ]
            refine wpAnyH_takeD (l' := (upB 81 57).toArray) (i := 56) (fuel := 24) (v := ?v1x56) rfl HNS.out (by kernel_rfl) (by kernel_rfl) (by kernel_rfl) (fun _ _ _ h => h) (by kernel_rfl) ?y1x56 k6 ?r1x56
            case y1x56 => (intro W hSw; go_simp; first | done | with_reducible rfl)
            try simp only [Act.put, List.setIfInBounds_toArray, List.set_cons_zero, List.set_cons_succ]
            refine wpAnyH_takeD (l' := (upB 81 58).toArray) (i := 57) (fuel := 23) (v := ?v1x57) rfl HNS.out (by kernel_rfl) (by kernel_rfl) (by kernel_rfl) (fun _ _ _ h => h) (by kernel_rfl) ?y1x57 k6 ?r1x57
            case y1x57 => (intro W hSw; go_simp; first | done | with_reducible rfl)
            try simp only [Act.put, List.setIfInBounds_toArray, List.set_cons_zero, List.set_cons_succ]
            refine wpAnyH_takeD (l' := (upB 81 59).toArray) (i := 58) (fuel := 22) (v := ?v1x58) rfl HNS.out (by kernel_rfl) (by kernel_rfl) (by kernel_rfl) (fun _ _ _ h => h) (by kernel_rfl) ?y1x58 k6 ?r1x58
            case y1x58 => (intro W hSw; go_simp; first | done | with_reducible rfl)
            try simp only [Act.put, List.setIfInBounds_toArray, List.set_cons_zero, List.set_cons_succ]
            refine wpAnyH_takeD (l' := (upB 81 60).toArray) (i := 59) (fuel := 21) (v := ?v1x59) rfl HNS.out (by kernel_rfl) (by kernel_rfl) (by kernel_rfl) (fun _ _ _ h => h) (by kernel_rfl) ?y1x59 k6 ?r1x59
            case y1x59 => (intro W hSw; go_simp; first | done | with_reducible rfl)
            try simp only [Act.put, List.setIfInBounds_toArray, List.set_cons_zero, List.set_cons_succ]
            refine wpAnyH_takeD (l' := (upB 81 61).toArray) (i := 60) (fuel := 20) (v := ?v1x60) rfl HNS.out (by kernel_rfl) (by kernel_rfl) (by kernel_rfl) (fun _ _ _ h => h) (by kernel_rfl) ?y1x60 k6 ?r1x60
            case y1x60 => (intro W hSw; go_simp; first | done | with_reducible rfl)
            try simp only [Act.put, List.setIfInBounds_toArray, List.set_cons_zero, List.set_cons_succ]
            refine wpAnyH_takeD (l' := (upB 81 62).toArray) (i := 61) (fuel := 19) (v := ?v1x61) rfl HNS.out (by kernel_rfl) (by kernel_rfl) (by kernel_rfl) (fun _ _ _ h => h) (by kernel_rfl) ?y1x61 k6 ?r1x61
            case y1x61 => (intro W hSw; (try dsimp only at hSw); go_simp; first | done | with_reducible rfl)
            try simp only [Act.put, List.setIfInBounds_toArray, List.set_cons_zero, List.set_cons_succ]
            refine wpAnyH_takeD (l' := (upB 81 63).toArray) (i := 62) (fuel := 18) (v := ?v1x62) rfl HNS.out (by kernel_rfl) (by kernel_rfl) (by kernel_rfl) (fun _ _ _ h => h) (by kernel_rfl) ?y1x62 k6 ?r1x62
            case y1x62 => (intro W hSw; go_simp; first | done | with_reducible rfl)
            try simp only [Act.put, List.setIfInBounds_toArray, List.set_cons_zero, List.set_cons_succ]
            refine wpAnyH_takeD (l' := (upB 81 64).toArray) (i := 63) (fuel := 17) (v := ?v1x63) rfl HNS.out (by kernel_rfl) (by kernel_rfl) (by kernel_rfl) (fun _ _ _ h => h) (by kernel_rfl) ?y1x63 k6 ?r1x63
            case y1x63 => (intro W hSw; (try dsimp only at hSw); go_simp; first | done | with_reducible rfl)
            try simp only [Act.put, List.setIfInBounds_toArray, List.set_cons_zero, List.set_cons_succ]
            refine wpAnyH_takeD (l' := (upB 81 65).toArray) (i := 64) (fuel := 16) (v := ?v1x64) rfl HNS.out (by kernel_rfl) (by kernel_rfl) (by kernel_rfl) (fun _ _ _ h => h) (by kernel_rfl) ?y1x64 k6 ?r1x64
            case y1x64 => (intro W hSw; go_simp; first | done | with_reducible rfl)
            try simp only [Act.put, List.setIfInBounds_toArray, List.set_cons_zero, List.set_cons_succ]
            refine wpAnyH_takeD (l' := (upB 81 66).toArray) (i := 65) (fuel := 15) (v := ?v1x65) rfl HNS.out (by kernel_rfl) (by kernel_rfl) (by kernel_rfl) (fun _ _ _ h => h) (by kernel_rfl) ?y1x65 k6 ?r1x65
            case y1x65 => (intro W hSw; go_simp; first | done | with_reducible rfl)
            try simp only [Act.put, List.setIfInBounds_toArray, List.set_cons_zero, List.set_cons_succ]
            refine wpAnyH_takeD (l' := (upB 81 67).toArray) (i := 66) (fuel := 14) (v := ?v1x66) rfl HNS.out (by kernel_rfl) (by kernel_rfl) (by kernel_rfl) (fun _ _ _ h => h) (by kernel_rfl) ?y1x66 k6 ?r1x66
            case y1x66 => (intro W hSw; go_simp; first | done | with_reducible rfl)
            try simp only [Act.put, List.setIfInBounds_toArray, List.set_cons_zero, List.set_cons_succ]
            refine wpAnyH_takeD (l' := (upB 81 68).toArray) (i := 67) (fuel := 13) (v := ?v1x67) rfl HNS.out (by kernel_rfl) (by kernel_rfl) (by kernel_rfl) (fun _ _ _ h => h) (by kernel_rfl) ?y1x67 k6 ?r1x67
            case y1x67 => (intro W hSw; go_simp; first | done | with_reducible rfl)
            try simp only [Act.put, List.setIfInBounds_toArray, List.set_cons_zero, List.set_cons_succ]
            refine wpAnyH_takeD (l' := (upB 81 69).toArray) (i := 68) (fuel := 12) (v := ?v1x68) rfl HNS.out (by kernel_rfl) (by kernel_rfl) (by kernel_rfl) (fun _ _ _ h => h) (by kernel_rfl) ?y1x68 k6 ?r1x68
            case y1x68 => (intro W hSw; go_simp; first | done | with_reducible rfl)
            try simp only [Act.put, List.setIfInBounds_toArray, List.set_cons_zero, List.set_cons_succ]
            refine wpAnyH_takeD (l' := (upB 81 70).toArray) (i := 69) (fuel := 11) (v := ?v1x69) rfl HNS.out (by kernel_rfl) (by kernel_rfl) (by kernel_rfl) (fun _ _ _ h => h) (by kernel_rfl) ?y1x69 k6 ?r1x69
            case y1x69 => (intro W hSw; (try dsimp only at hSw); go_simp; first | done | with_reducible rfl)
            try simp only [Act.put, List.setIfInBounds_toArray, List.set_cons_zero, List.set_cons_succ]
            refine wpAnyH_takeD (l' := (upB 81 71).toArray) (i := 70) (fuel := 10) (v := ?v1x70) rfl HNS.out (by kernel_rfl) (by kernel_rfl) (by kernel_rfl) (fun _ _ _ h => h) (by kernel_rfl) ?y1x70 k6 ?r1x70
            case y1x70 => (intro W hSw; go_simp; first | done | with_reducible rfl)
            try simp only [Act.put, List.setIfInBounds_toArray, List.set_cons_zero, List.set_cons_succ]
            refine wpAnyH_takeD (l' := (upB 81 72).toArray) (i := 71) (fuel := 9) (v := ?v1x71) rfl HNS.out (by kernel_rfl) (by kernel_rfl) (by kernel_rfl) (fun _ _ _ h => h) (by kernel_rfl) ?y1x71 k6 ?r1x71
            case y1x71 => (intro W hSw; (try dsimp only at hSw); go_simp; first | done | with_reducible rfl)
            try simp only [Act.put, List.setIfInBounds_toArray, List.set_cons_zero, List.set_cons_succ]
            refine wpAnyH_takeD (l' := (upB 81 73).toArray) (i := 72) (fuel := 8) (v := ?v1x72) rfl HNS.out (by kernel_rfl) (by kernel_rfl) (by kernel_rfl) (fun _ _ _ h => h) (by kernel_rfl) ?y1x72 k6 ?r1x72
            case y1x72 => (intro W hSw; go_simp; first | done | with_reducible rfl)
            try simp only [Act.put, List.setIfInBounds_toArray, List.set_cons_zero, List.set_cons_succ]
            refine wpAnyH_takeD (l' := (upB 81 74).toArray) (i := 73) (fuel := 7) (v := ?v1x73) rfl HNS.out (by kernel_rfl) (by kernel_rfl) (by kernel_rfl) (fun _ _ _ h => h) (by kernel_rfl) ?y1x73 k6 ?r1x73
            case y1x73 => (intro W hSw; go_simp; first | done | with_reducible rfl)
            try simp only [Act.put, List.setIfInBounds_toArray, List.set_cons_zero, List.set_cons_succ]
            refine wpAnyH_takeD (l' := (upB 81 75).toArray) (i := 74) (fuel := 6) (v := ?v1x74) rfl HNS.out (by kernel_rfl) (by kernel_rfl) (by kernel_rfl) (fun _ _ _ h => h) (by kernel_rfl) ?y1x74 k6 ?r1x74
            case y1x74 => (intro W hSw; (try dsimp only at hSw); go_simp; first | done | with_reducible rfl)
            try simp only [Act.put, List.setIfInBounds_toArray, List.set_cons_zero, List.set_cons_succ]
            refine wpAnyH_takeD (l' := (upB 81 76).toArray) (i := 75) (fuel := 5) (v := ?v1x75) rfl HNS.out (by kernel_rfl) (by kernel_rfl) (by kernel_rfl) (fun _ _ _ h => h) (by kernel_rfl) ?y1x75 k6 ?r1x75
            case y1x75 => (intro W hSw; go_simp; first | done | with_reducible rfl)
            try simp only [Act.put, List.setIfInBounds_toArray, List.set_cons_zero, List.set_cons_succ]
            refine wpAnyH_takeD (l' := (upB 81 77).toArray) (i := 76) (fuel := 4) (v := ?v1x76) rfl HNS.out (by kernel_rfl) (by kernel_rfl) (by kernel_rfl) (fun _ _ _ h => h) (by kernel_rfl) ?y1x76 k6 ?r1x76
            case y1x76 => (intro W hSw; (try dsimp only at hSw); go_simp; first | done | with_reducible rfl)
            try simp only [Act.put, List.setIfInBounds_toArray, List.set_cons_zero, List.set_cons_succ]
            refine wpAnyH_takeD (l' := (upB 81 78).toArray) (i := 77) (fuel := 3) (v := ?v1x77) rfl HNS.out (by kernel_rfl) (by kernel_rfl) (by kernel_rfl) (fun _ _ _ h => h) (by kernel_rfl) ?y1x77 k6 ?r1x77
            case y1x77 => (intro W hSw; go_simp; first | done | with_reducible rfl)
            try simp only [Act.put, List.setIfInBounds_toArray, List.set_cons_zero, List.set_cons_succ]
            refine wpAnyH_oneD (l' := (upB 81 79).toArray) (i := 78) (fuel := 2) rfl (by kernel_rfl) (by kernel_rfl) (fun Kc hK => ?_)
            go_simp
            go_at_call 29
            refine (HSL.out _ hb6).mono ?_
            rintro e w7 ⟨rfl, hb7⟩
            have k7 := HKEEP.out w7 hb7
            go_wp2_with fail
            refine hK.out _ _ k7 (fun _ => ?_)
            clear hK Kc
            try simp only [Act.put, List.setIfInBounds_toArray, List.set_cons_zero, List.set_cons_succ]
            refine wpAnyH_takeD (l' := (upB 81 80).toArray) (i := 79) (fuel := 1) (v := ?v1x79) rfl HNS.out (by kernel_rfl) (by kernel_rfl) (by kernel_rfl) (fun _ _ _ h => h) (by kernel_rfl) ?y1x79 k7 ?r1x79
            case y1x79 => (intro W hSw; go_simp; first | done | with_reducible rfl)
            try simp only [Act.put, List.setIfInBounds_toArray, List.set_cons_zero, List.set_cons_succ]
            refine wpAnyH_takeD (l' := (upB 81 81).toArray) (i := 80) (fuel := 0) (v := ?v1x80) rfl HNS.out (by kernel_rfl) (by kernel_rfl) (by kernel_rfl) (fun _ _ _ h => h) (by kernel_rfl) ?y1x80 k7 ?r1x80
            case y1x80 => (intro W hSw; go_simp; first | done | with_reducible rfl)
            try simp only [Act.put, List.setIfInBounds_toArray, List.set_cons_zero, List.set_cons_succ]
            refine wpAnyH_done (by kernel_rfl) ?_ _
            go_wp2_with fail
            go_meet
            case rel => exact ⟨rfl, hb7⟩

        have v1 : (Y.term == X.term) = true := by simp [e1]
        by_cases e2 : X.vote = 0
        case pos =>
          have v2 : (X.vote != 0) = false := by simp [e2]
          clear e1 e2 HVT
          as_aux_lemma =>
            refine wp_region_heldD (S := fun W => W.cell? ⟨BN, 0, none⟩ = some (.int .i64 Y.n) ∧ W.cell? ⟨BN, 1, none⟩ = some (.int .i64 Y.id) ∧ W.cell? ⟨BN, 2, none⟩ = some (.int .i64 Y.term) ∧ W.cell? ⟨BN, 3, none⟩ = some (.int .i64 Y.vote) ∧ W.cell? ⟨BN, 4, none⟩ = some (.slice lo5 Y.log.length lc5) ∧ W.cell? ⟨BN, 5, none⟩ = some (.int .i64 Y.role) ∧ W.cell? ⟨BN, 6, none⟩ = some (.int .i64 Y.com) ∧ W.cell? ⟨BN, 7, none⟩ = some (.slice vo5 Y.votes.length vc5) ∧ W.cell? ⟨BN, 8, none⟩ = some (.slice no5 Y.next.length nc5) ∧ W.cell? ⟨BN, 9, none⟩ = some (.slice ho5 Y.hav.length hc5) ∧ W.cell? ⟨w.heap.size, 0, none⟩ = some (.int .i64 X.n) ∧ W.cell? ⟨w.heap.size, 1, none⟩ = some (.int .i64 X.id) ∧ W.cell? ⟨w.heap.size, 2, none⟩ = some (.int .i64 X.term) ∧ W.cell? ⟨w.heap.size, 3, none⟩ = some (.int .i64 X.vote) ∧ W.cell? ⟨w.heap.size, 4, none⟩ = some (.slice lo0 X.log.length lc0) ∧ W.cell? ⟨w.heap.size, 6, none⟩ = some (.int .i64 X.com)) (n := 81) (l := (upB 81 0).toArray) (by kernel_rfl) (by kernel_rfl) (by kernel_rfl) (by kernel_rfl) (HKEEP.out _ HDR.out) (fun HNS hHeld => ?_)
            refine wpAnyH_takeD (l' := (upB 81 1).toArray) (i := 0) (fuel := 80) (v := ?v2x0) rfl HNS.out (by kernel_rfl) (by kernel_rfl) (by kernel_rfl) (fun _ _ _ h => h) (by kernel_rfl) ?y2x0 hHeld ?r2x0
            case y2x0 => (intro W hSw; (try dsimp only at hSw); go_simp; first | done | with_reducible rfl)
            try simp only [Act.put, List.setIfInBounds_toArray, List.set_cons_zero, List.set_cons_succ]
            refine wpAnyH_oneD (l' := (upB 81 2).toArray) (i := 1) (fuel := 79) rfl (by kernel_rfl) (by kernel_rfl) (fun Kc hK => ?_)
            go_simp
            go_at_call 15
            refine HCK.out.mono ?_
            rintro e w6 ⟨rfl, hb6⟩
            have k6 := HKEEP.out w6 hb6
            go_wp2_with fail
            refine hK.out _ _ k6 (fun _ => ?_)
            clear hK Kc
            try simp only [Act.put, List.setIfInBounds_toArray, List.set_cons_zero, List.set_cons_succ]
            refine wpAnyH_takeD (l' := (upB 81 3).toArray) (i := 2) (fuel := 78) (v := ?v2x2) rfl HNS.out (by kernel_rfl) (by kernel_rfl) (by kernel_rfl) (fun _ _ _ h => h) (by kernel_rfl) ?y2x2 k6 ?r2x2
            case y2x2 => (intro W hSw; go_simp; first | done | with_reducible rfl)
            try simp only [Act.put, List.setIfInBounds_toArray, List.set_cons_zero, List.set_cons_succ]
            refine wpAnyH_takeD (l' := (upB 81 4).toArray) (i := 3) (fuel := 77) (v := ?v2x3) rfl HNS.out (by kernel_rfl) (by kernel_rfl) (by kernel_rfl) (fun _ _ _ h => h) (by kernel_rfl) ?y2x3 k6 ?r2x3
            case y2x3 => (intro W hSw; go_simp; first | done | with_reducible rfl)
            try simp only [Act.put, List.setIfInBounds_toArray, List.set_cons_zero, List.set_cons_succ]
            refine wpAnyH_takeD (l' := (upB 81 5).toArray) (i := 4) (fuel := 76) (v := ?v2x4) rfl HNS.out (by kernel_rfl) (by kernel_rfl) (by kernel_rfl) (fun _ _ _ h => h) (by kernel_rfl) ?y2x4 k6 ?r2x4
            case y2x4 => (intro W hSw; go_simp; first | done | with_reducible rfl)
            try simp only [Act.put, List.setIfInBounds_toArray, List.set_cons_zero, List.set_cons_succ]
            refine wpAnyH_takeD (l' := (upB 81 6).toArray) (i := 5) (fuel := 75) (v := ?v2x5) rfl HNS.out (by kernel_rfl) (by kernel_rfl) (by kernel_rfl) (fun _ _ _ h => h) (by kernel_rfl) ?y2x5 k6 ?r2x5
            case y2x5 => (intro W hSw; go_simp; first | done | with_reducible rfl)
            try simp only [Act.put, List.setIfInBounds_toArray, List.set_cons_zero, List.set_cons_succ]
            refine wpAnyH_takeD (l' := (upB 81 7).toArray) (i := 6) (fuel := 74) (v := ?v2x6) rfl HNS.out (by kernel_rfl) (by kernel_rfl) (by kernel_rfl) (fun _ _ _ h => h) (by kernel_rfl) ?y2x6 k6 ?r2x6
            case y2x6 => (intro W hSw; (try dsimp only at hSw); go_simp; first | done | with_reducible rfl)
            try simp only [Act.put, List.setIfInBounds_toArray, List.set_cons_zero, List.set_cons_succ]
            refine wpAnyH_takeD (l' := (upB 81 8).toArray) (i := 7) (fuel := 73) (v := ?v2x7) rfl HNS.out (by kernel_rfl) (by kernel_rfl) (by kernel_rfl) (fun _ _ _ h => h) (by kernel_rfl) ?y2x7 k6 ?r2x7
            case y2x7 => (intro W hSw; go_simp; first | done | with_reducible rfl)
            try simp only [Act.put, List.setIfInBounds_toArray, List.set_cons_zero, List.set_cons_succ]
            refine wpAnyH_takeD (l' := (upB 81 9).toArray) (i := 8) (fuel := 72) (v := ?v2x8) rfl HNS.out (by kernel_rfl) (by kernel_rfl) (by kernel_rfl) (fun _ _ _ h => h) (by kernel_rfl) ?y2x8 k6 ?r2x8
            case y2x8 => (intro W hSw; (try dsimp only at hSw); go_simp; first | done | with_reducible rfl)
            try simp only [Act.put, List.setIfInBounds_toArray, List.set_cons_zero, List.set_cons_succ]
            refine wpAnyH_takeD (l' := (upB 81 10).toArray) (i := 9) (fuel := 71) (v := ?v2x9) rfl HNS.out (by kernel_rfl) (by kernel_rfl) (by kernel_rfl) (fun _ _ _ h => h) (by kernel_rfl) ?y2x9 k6 ?r2x9
            case y2x9 => (intro W hSw; go_simp; first | done | with_reducible rfl)
            try simp only [Act.put, List.setIfInBounds_toArray, List.set_cons_zero, List.set_cons_succ]
            refine wpAnyH_takeD (l' := (upB 81 11).toArray) (i := 10) (fuel := 70) (v := ?v2x10) rfl HNS.out (by kernel_rfl) (by kernel_rfl) (by kernel_rfl) (fun _ _ _ h => h) (by kernel_rfl) ?y2x10 k6 ?r2x10
            case y2x10 => (intro W hSw; go_simp; first | done | with_reducible rfl)
            try simp only [Act.put, List.setIfInBounds_toArray, List.set_cons_zero, List.set_cons_succ]
            refine wpAnyH_takeD (l' := (upB 81 12).toArray) (i := 11) (fuel := 69) (v := ?v2x11) rfl HNS.out (by kernel_rfl) (by kernel_rfl) (by kernel_rfl) (fun _ _ _ h => h) (by kernel_rfl) ?y2x11 k6 ?r2x11
            case y2x11 => (intro W hSw; go_simp; first | done | with_reducible rfl)
            try simp only [Act.put, List.setIfInBounds_toArray, List.set_cons_zero, List.set_cons_succ]
            refine wpAnyH_takeD (l' := (upB 81 13).toArray) (i := 12) (fuel := 68) (v := ?v2x12) rfl HNS.out (by kernel_rfl) (by kernel_rfl) (by kernel_rfl) (fun _ _ _ h => h) (by kernel_rfl) ?y2x12 k6 ?r2x12
            case y2x12 => (intro W hSw; go_simp; first | done | with_reducible rfl)
            try simp only [Act.put, List.setIfInBounds_toArray, List.set_cons_zero, List.set_cons_succ]
            refine wpAnyH_takeD (l' := (upB 81 14).toArray) (i := 13) (fuel := 67) (v := ?v2x13) rfl HNS.out (by kernel_rfl) (by kernel_rfl) (by kernel_rfl) (fun _ _ _ h => h) (by kernel_rfl) ?y2x13 k6 ?r2x13
            case y2x13 => (intro W hSw; (try dsimp only at hSw); go_simp; first | done | with_reducible rfl)
            try simp only [Act.put, List.setIfInBounds_toArray, List.set_cons_zero, List.set_cons_succ]
            refine wpAnyH_takeD (l' := (upB 81 15).toArray) (i := 14) (fuel := 66) (v := ?v2x14) rfl HNS.out (by kernel_rfl) (by kernel_rfl) (by kernel_rfl) (fun _ _ _ h => h) (by kernel_rfl) ?y2x14 k6 ?r2x14
            case y2x14 => (intro W hSw; go_simp; first | done | with_reducible rfl)
            try simp only [Act.put, List.setIfInBounds_toArray, List.set_cons_zero, List.set_cons_succ]
            refine wpAnyH_takeD (l' := (upB 81 16).toArray) (i := 15) (fuel := 65) (v := ?v2x15) rfl HNS.out (by kernel_rfl) (by kernel_rfl) (by kernel_rfl) (fun _ _ _ h => h) (by kernel_rfl) ?y2x15 k6 ?r2x15
            case y2x15 => (intro W hSw; (try dsimp only at hSw); go_simp; first | done | with_reducible rfl)
            try simp only [Act.put, List.setIfInBounds_toArray, List.set_cons_zero, List.set_cons_succ]
            refine wpAnyH_takeD (l' := (upB 81 17).toArray) (i := 16) (fuel := 64) (v := ?v2x16) rfl HNS.out (by kernel_rfl) (by kernel_rfl) (by kernel_rfl) (fun _ _ _ h => h) (by kernel_rfl) ?y2x16 k6 ?r2x16
            case y2x16 => (intro W hSw; go_simp; first | done | with_reducible rfl)
            try simp only [Act.put, List.setIfInBounds_toArray, List.set_cons_zero, List.set_cons_succ]
            refine wpAnyH_takeD (l' := (upB 81 18).toArray) (i := 17) (fuel := 63) (v := ?v2x17) rfl HNS.out (by kernel_rfl) (by kernel_rfl) (by kernel_rfl) (fun _ _ _ h => h) (by kernel_rfl) ?y2x17 k6 ?r2x17
            case y2x17 => (intro W hSw; go_simp; first | done | with_reducible rfl)
            try simp only [Act.put, List.setIfInBounds_toArray, List.set_cons_zero, List.set_cons_succ]
            refine wpAnyH_takeD (l' := (upB 81 19).toArray) (i := 18) (fuel := 62) (v := ?v2x18) rfl HNS.out (by kernel_rfl) (by kernel_rfl) (by kernel_rfl) (fun _ _ _ h => h) (by kernel_rfl) ?y2x18 k6 ?r2x18
            case y2x18 => (intro W hSw; go_simp; first | done | with_reducible rfl)
            try simp only [Act.put, List.setIfInBounds_toArray, List.set_cons_zero, List.set_cons_succ]
            refine wpAnyH_takeD (l' := (upB 81 20).toArray) (i := 19) (fuel := 61) (v := ?v2x19) rfl HNS.out (by kernel_rfl) (by kernel_rfl) (by kernel_rfl) (fun _ _ _ h => h) (by kernel_rfl) ?y2x19 k6 ?r2x19
            case y2x19 => (intro W hSw; go_simp; first | done | with_reducible rfl)
            try simp only [Act.put, List.setIfInBounds_toArray, List.set_cons_zero, List.set_cons_succ]
            refine wpAnyH_takeD (l' := (upB 81 21).toArray) (i := 20) (fuel := 60) (v := ?v2x20) rfl HNS.out (by kernel_rfl) (by kernel_rfl) (by kernel_rfl) (fun _ _ _ h => h) (by kernel_rfl) ?y2x20 k6 ?r2x20
            case y2x20 => (intro W hSw; (try dsimp only at hSw); go_simp; first | done | with_reducible rfl)
            try simp only [Act.put, List.setIfInBounds_toArray, List.set_cons_zero, List.set_cons_succ]
            refine wpAnyH_takeD (l' := (upB 81 22).toArray) (i := 21) (fuel := 59) (v := ?v2x21) rfl HNS.out (by kernel_rfl) (by kernel_rfl) (by kernel_rfl) (fun _ _ _ h => h) (by kernel_rfl) ?y2x21 k6 ?r2x21
            case y2x21 => (intro W hSw; go_simp; first | done | with_reducible rfl)
            try simp only [Act.put, List.setIfInBounds_toArray, List.set_cons_zero, List.set_cons_succ]
            refine wpAnyH_takeD (l' := (upB 81 23).toArray) (i := 22) (fuel := 58) (v := ?v2x22) rfl HNS.out (by kernel_rfl) (by kernel_rfl) (by kernel_rfl) (fun _ _ _ h => h) (by kernel_rfl) ?y2x22 k6 ?r2x22
            case y2x22 => (intro W hSw; (try dsimp only at hSw); go_simp; first | done | with_reducible rfl)
            try simp only [Act.put, List.setIfInBounds_toArray, List.set_cons_zero, List.set_cons_succ]
            refine wpAnyH_takeD (l' := (upB 81 24).toArray) (i := 23) (fuel := 57) (v := ?v2x23) rfl HNS.out (by kernel_rfl) (by kernel_rfl) (by kernel_rfl) (fun _ _ _ h => h) (by kernel_rfl) ?y2x23 k6 ?r2x23
            case y2x23 => (intro W hSw; go_simp; first | done | with_reducible rfl)
            try simp only [Act.put, List.setIfInBounds_toArray, List.set_cons_zero, List.set_cons_succ]
            refine wpAnyH_takeD (l' := (upB 81 25).toArray) (i := 24) (fuel := 56) (v := ?v2x24) rfl HNS.out (by kernel_rfl) (by kernel_rfl) (by kernel_rfl) (fun _ _ _ h => h) (by kernel_rfl) ?y2x24 k6 ?r2x24
            case y2x24 => (intro W hSw; go_simp; first | done | with_reducible rfl)
            try simp only [Act.put, List.setIfInBounds_toArray, List.set_cons_zero, List.set_cons_succ]
            refine wpAnyH_takeD (l' := (upB 81 26).toArray) (i := 25) (fuel := 55) (v := ?v2x25) rfl HNS.out (by kernel_rfl) (by kernel_rfl) (by kernel_rfl) (fun _ _ _ h => h) (by kernel_rfl) ?y2x25 k6 ?r2x25
            case y2x25 => (intro W hSw; go_simp; first | done | with_reducible rfl)
            try simp only [Act.put, List.setIfInBounds_toArray, List.set_cons_zero, List.set_cons_succ]
            refine wpAnyH_takeD (l' := (upB 81 27).toArray) (i := 26) (fuel := 54) (v := ?v2x26) rfl HNS.out (by kernel_rfl) (by kernel_rfl) (by kernel_rfl) (fun _ _ _ h => h) (by kernel_rfl) ?y2x26 k6 ?r2x26
            case y2x26 => (intro W hSw; go_simp; first | done | with_reducible rfl)
            try simp only [Act.put, List.setIfInBounds_toArray, List.set_cons_zero, List.set_cons_succ]
            refine wpAnyH_takeD (l' := (upB 81 28).toArray) (i := 27) (fuel := 53) (v := ?v2x27) rfl HNS.out (by kernel_rfl) (by kernel_rfl) (by kernel_rfl) (fun _ _ _ h => h) (by kernel_rfl) ?y2x27 k6 ?r2x27
            case y2x27 => (intro W hSw; (try dsimp only at hSw); go_simp; first | done | with_reducible rfl)
            try simp only [Act.put, List.setIfInBounds_toArray, List.set_cons_zero, List.set_cons_succ]
            refine wpAnyH_takeD (l' := (upB 81 29).toArray) (i := 28) (fuel := 52) (v := ?v2x28) rfl HNS.out (by kernel_rfl) (by kernel_rfl) (by kernel_rfl) (fun _ _ _ h => h) (by kernel_rfl) ?y2x28 k6 ?r2x28
            case y2x28 => (intro W hSw; go_simp; first | done | with_reducible rfl)
            try simp only [Act.put, List.setIfInBounds_toArray, List.set_cons_zero, List.set_cons_succ]
            refine wpAnyH_takeD (l' := (upB 81 30).toArray) (i := 29) (fuel := 51) (v := ?v2x29) rfl HNS.out (by kernel_rfl) (by kernel_rfl) (by kernel_rfl) (fun _ _ _ h => h) (by kernel_rfl) ?y2x29 k6 ?r2x29
            case y2x29 => (intro W hSw; (try dsimp only at hSw); go_simp; first | done | with_reducible rfl)
            try simp only [Act.put, List.setIfInBounds_toArray, List.set_cons_zero, List.set_cons_succ]
            refine wpAnyH_takeD (l' := (upB 81 31).toArray) (i := 30) (fuel := 50) (v := ?v2x30) rfl HNS.out (by kernel_rfl) (by kernel_rfl) (by kernel_rfl) (fun _ _ _ h => h) (by kernel_rfl) ?y2x30 k6 ?r2x30
            case y2x30 => (intro W hSw; go_simp; first | done | with_reducible rfl)
            try simp only [Act.put, List.setIfInBounds_toArray, List.set_cons_zero, List.set_cons_succ]
            refine wpAnyH_takeD (l' := (upB 81 32).toArray) (i := 31) (fuel := 49) (v := ?v2x31) rfl HNS.out (by kernel_rfl) (by kernel_rfl) (by kernel_rfl) (fun _ _ _ h => h) (by kernel_rfl) ?y2x31 k6 ?r2x31
            case y2x31 => (intro W hSw; go_simp; first | done | with_reducible rfl)
            try simp only [Act.put, List.setIfInBounds_toArray, List.set_cons_zero, List.set_cons_succ]
            refine wpAnyH_takeD (l' := (upB 81 33).toArray) (i := 32) (fuel := 48) (v := ?v2x32) rfl HNS.out (by kernel_rfl) (by kernel_rfl) (by kernel_rfl) (fun _ _ _ h => h) (by kernel_rfl) ?y2x32 k6 ?r2x32
            case y2x32 => (intro W hSw; go_simp; first | done | with_reducible rfl)
            try simp only [Act.put, List.setIfInBounds_toArray, List.set_cons_zero, List.set_cons_succ]
            refine wpAnyH_takeD (l' := (upB 81 34).toArray) (i := 33) (fuel := 47) (v := ?v2x33) rfl HNS.out (by kernel_rfl) (by kernel_rfl) (by kernel_rfl) (fun _ _ _ h => h) (by kernel_rfl) ?y2x33 k6 ?r2x33
            case y2x33 => (intro W hSw; (try dsimp only at hSw); go_simp; first | done | with_reducible rfl)
            try simp only [Act.put, List.setIfInBounds_toArray, List.set_cons_zero, List.set_cons_succ]
            refine wpAnyH_takeD (l' := (upB 81 35).toArray) (i := 34) (fuel := 46) (v := ?v2x34) rfl HNS.out (by kernel_rfl) (by kernel_rfl) (by kernel_rfl) (fun _ _ _ h => h) (by kernel_rfl) ?y2x34 k6 ?r2x34
            case y2x34 => (intro W hSw; go_simp; first | done | with_reducible rfl)
            try simp only [Act.put, List.setIfInBounds_toArray, List.set_cons_zero, List.set_cons_succ]
            refine wpAnyH_takeD (l' := (upB 81 36).toArray) (i := 35) (fuel := 45) (v := ?v2x35) rfl HNS.out (by kernel_rfl) (by kernel_rfl) (by kernel_rfl) (fun _ _ _ h => h) (by kernel_rfl) ?y2x35 k6 ?r2x35
            case y2x35 => (intro W hSw; go_simp; first | done | with_reducible rfl)
            try simp only [Act.put, List.setIfInBounds_toArray, List.set_cons_zero, List.set_cons_succ]
            refine wpAnyH_takeD (l' := (upB 81 37).toArray) (i := 36) (fuel := 44) (v := ?v2x36) rfl HNS.out (by kernel_rfl) (by kernel_rfl) (by kernel_rfl) (fun _ _ _ h => h) (by kernel_rfl) ?y2x36 k6 ?r2x36
            case y2x36 => (intro W hSw; go_simp; first | done | with_reducible rfl)
            try simp only [Act.put, List.setIfInBounds_toArray, List.set_cons_zero, List.set_cons_succ]
            refine wpAnyH_skipD (l' := (upB 81 38).toArray) (i := 37) (fuel := 43) rfl HNS.out (by kernel_rfl) (by kernel_rfl) (by kernel_rfl) (fun _ _ _ h => h) (by kernel_rfl) k6 ?_
            try simp only [Act.put, List.setIfInBounds_toArray, List.set_cons_zero, List.set_cons_succ]
            refine wpAnyH_skipD (l' := (upB 81 39).toArray) (i := 38) (fuel := 42) rfl HNS.out (by kernel_rfl) (by kernel_rfl) (by kernel_rfl) (fun _ _ _ h => h) (by kernel_rfl) k6 ?_
            try simp only [Act.put, List.setIfInBounds_toArray, List.set_cons_zero, List.set_cons_succ]
            refine wpAnyH_skipD (l' := (upB 81 40).toArray) (i := 39) (fuel := 41) rfl HNS.out (by kernel_rfl) (by kernel_rfl) (by kernel_rfl) (fun _ _ _ h => h) (by kernel_rfl) k6 ?_
            try simp only [Act.put, List.setIfInBounds_toArray, List.set_cons_zero, List.set_cons_succ]
            refine wpAnyH_skipD (l' := (upB 81 41).toArray) (i := 40) (fuel := 40) rfl HNS.out (by kernel_rfl) (by kernel_rfl) (by kernel_rfl) (fun _ _ _ h => h) (by kernel_rfl) k6 ?_
            try simp only [Act.put, List.setIfInBounds_toArray, List.set_cons_zero, List.set_cons_succ]
            refine wpAnyH_skipD (l' := (upB 81 42).toArray) (i := 41) (fuel := 39) rfl HNS.out (by kernel_rfl) (by kernel_rfl) (by kernel_rfl) (fun _ _ _ h => h) (by kernel_rfl) k6 ?_
            try simp only [Act.put, List.setIfInBounds_toArray, List.set_cons_zero, List.set_cons_succ]
            refine wpAnyH_takeD (l' := (upB 81 43).toArray) (i := 42) (fuel := 38) (v := ?v2x42) rfl HNS.out (by kernel_rfl) (by kernel_rfl) (by kernel_rfl) (fun _ _ _ h => h) (by kernel_rfl) ?y2x42 k6 ?r2x42
            case y2x42 => (intro W hSw; go_simp; first | done | with_reducible rfl)
            try simp only [Act.put, List.setIfInBounds_toArray, List.set_cons_zero, List.set_cons_succ]
            refine wpAnyH_takeD (l' := (upB 81 44).toArray) (i := 43) (fuel := 37) (v := ?v2x43) rfl HNS.out (by kernel_rfl) (by kernel_rfl) (by kernel_rfl) (fun _ _ _ h => h) (by kernel_rfl) ?y2x43 k6 ?r2x43
            case y2x43 => (intro W hSw; go_simp; first | done | with_reducible rfl)
            try simp only [Act.put, List.setIfInBounds_toArray, List.set_cons_zero, List.set_cons_succ]
            refine wpAnyH_takeD (l' := (upB 81 45).toArray) (i := 44) (fuel := 36) (v := ?v2x44) rfl HNS.out (by kernel_rfl) (by kernel_rfl) (by kernel_rfl) (fun _ _ _ h => h) (by kernel_rfl) ?y2x44 k6 ?r2x44
            case y2x44 => (intro W hSw; go_simp; first | done | with_reducible rfl)
            try simp only [Act.put, List.setIfInBounds_toArray, List.set_cons_zero, List.set_cons_succ]
            refine wpAnyH_takeD (l' := (upB 81 46).toArray) (i := 45) (fuel := 35) (v := ?v2x45) rfl HNS.out (by kernel_rfl) (by kernel_rfl) (by kernel_rfl) (fun _ _ _ h => h) (by kernel_rfl) ?y2x45 k6 ?r2x45
            case y2x45 => (intro W hSw; go_simp; first | done | with_reducible rfl)
            try simp only [Act.put, List.setIfInBounds_toArray, List.set_cons_zero, List.set_cons_succ]
            refine wpAnyH_takeD (l' := (upB 81 47).toArray) (i := 46) (fuel := 34) (v := ?v2x46) rfl HNS.out (by kernel_rfl) (by kernel_rfl) (by kernel_rfl) (fun _ _ _ h => h) (by kernel_rfl) ?y2x46 k6 ?r2x46
            case y2x46 => (intro W hSw; (try dsimp only at hSw); go_simp; first | done | with_reducible rfl)
            try simp only [Act.put, List.setIfInBounds_toArray, List.set_cons_zero, List.set_cons_succ]
            refine wpAnyH_takeD (l' := (upB 81 48).toArray) (i := 47) (fuel := 33) (v := ?v2x47) rfl HNS.out (by kernel_rfl) (by kernel_rfl) (by kernel_rfl) (fun _ _ _ h => h) (by kernel_rfl) ?y2x47 k6 ?r2x47
            case y2x47 => (intro W hSw; go_simp; first | done | with_reducible rfl)
            try simp only [Act.put, List.setIfInBounds_toArray, List.set_cons_zero, List.set_cons_succ]
            refine wpAnyH_takeD (l' := (upB 81 49).toArray) (i := 48) (fuel := 32) (v := ?v2x48) rfl HNS.out (by kernel_rfl) (by kernel_rfl) (by kernel_rfl) (fun _ _ _ h => h) (by kernel_rfl) ?y2x48 k6 ?r2x48
            case y2x48 => (intro W hSw; (try dsimp only at hSw); go_simp; first | done | with_reducible rfl)
            try simp only [Act.put, List.setIfInBounds_toArray, List.set_cons_zero, List.set_cons_succ]
            refine wpAnyH_takeD (l' := (upB 81 50).toArray) (i := 49) (fuel := 31) (v := ?v2x49) rfl HNS.out (by kernel_rfl) (by kernel_rfl) (by kernel_rfl) (fun _ _ _ h => h) (by kernel_rfl) ?y2x49 k6 ?r2x49
            case y2x49 => (intro W hSw; go_simp; first | done | with_reducible rfl)
            try simp only [Act.put, List.setIfInBounds_toArray, List.set_cons_zero, List.set_cons_succ]
            refine wpAnyH_takeD (l' := (upB 81 51).toArray) (i := 50) (fuel := 30) (v := ?v2x50) rfl HNS.out (by kernel_rfl) (by kernel_rfl) (by kernel_rfl) (fun _ _ _ h => h) (by kernel_rfl) ?y2x50 k6 ?r2x50
            case y2x50 => (intro W hSw; go_simp; first | done | with_reducible rfl)
            try simp only [Act.put, List.setIfInBounds_toArray, List.set_cons_zero, List.set_cons_succ]
            refine wpAnyH_takeD (l' := (upB 81 52).toArray) (i := 51) (fuel := 29) (v := ?v2x51) rfl HNS.out (by kernel_rfl) (by kernel_rfl) (by kernel_rfl) (fun _ _ _ h => h) (by kernel_rfl) ?y2x51 k6 ?r2x51
            case y2x51 => (intro W hSw; go_simp; first | done | with_reducible rfl)
            try simp only [Act.put, List.setIfInBounds_toArray, List.set_cons_zero, List.set_cons_succ]
            refine wpAnyH_takeD (l' := (upB 81 53).toArray) (i := 52) (fuel := 28) (v := ?v2x52) rfl HNS.out (by kernel_rfl) (by kernel_rfl) (by kernel_rfl) (fun _ _ _ h => h) (by kernel_rfl) ?y2x52 k6 ?r2x52
            case y2x52 => (intro W hSw; go_simp; first | done | with_reducible rfl)
            try simp only [Act.put, List.setIfInBounds_toArray, List.set_cons_zero, List.set_cons_succ]
            refine wpAnyH_takeD (l' := (upB 81 54).toArray) (i := 53) (fuel := 27) (v := ?v2x53) rfl HNS.out (by kernel_rfl) (by kernel_rfl) (by kernel_rfl) (fun _ _ _ h => h) (by kernel_rfl) ?y2x53 k6 ?r2x53
            case y2x53 => (intro W hSw; (try dsimp only at hSw); go_simp; first | done | with_reducible rfl)
            try simp only [Act.put, List.setIfInBounds_toArray, List.set_cons_zero, List.set_cons_succ]
            refine wpAnyH_takeD (l' := (upB 81 55).toArray) (i := 54) (fuel := 26) (v := ?v2x54) rfl HNS.out (by kernel_rfl) (by kernel_rfl) (by kernel_rfl) (fun _ _ _ h => h) (by kernel_rfl) ?y2x54 k6 ?r2x54
            case y2x54 => (intro W hSw; go_simp; first | done | with_reducible rfl)
            try simp only [Act.put, List.setIfInBounds_toArray, List.set_cons_zero, List.set_cons_succ]
            refine wpAnyH_takeD (l' := (upB 81 56).toArray) (i := 55) (fuel := 25) (v := ?v2x55) rfl HNS.out (by kernel_rfl) (by kernel_rfl) (by kernel_rfl) (fun _ _ _ h => h) (by kernel_rfl) ?y2x55 k6 ?r2x55
            case y2x55 => (intro W hSw; (try dsimp only at hSw); go_simp; first | done | with_reducible rfl)
            try simp only [Act.put, List.setIfInBounds_toArray, List.set_cons_zero, List.set_cons_succ]
            refine wpAnyH_takeD (l' := (upB 81 57).toArray) (i := 56) (fuel := 24) (v := ?v2x56) rfl HNS.out (by kernel_rfl) (by kernel_rfl) (by kernel_rfl) (fun _ _ _ h => h) (by kernel_rfl) ?y2x56 k6 ?r2x56
            case y2x56 => (intro W hSw; go_simp; first | done | with_reducible rfl)
            try simp only [Act.put, List.setIfInBounds_toArray, List.set_cons_zero, List.set_cons_succ]
            refine wpAnyH_takeD (l' := (upB 81 58).toArray) (i := 57) (fuel := 23) (v := ?v2x57) rfl HNS.out (by kernel_rfl) (by kernel_rfl) (by kernel_rfl) (fun _ _ _ h => h) (by kernel_rfl) ?y2x57 k6 ?r2x57
            case y2x57 => (intro W hSw; go_simp; first | done | with_reducible rfl)
            try simp only [Act.put, List.setIfInBounds_toArray, List.set_cons_zero, List.set_cons_succ]
            refine wpAnyH_takeD (l' := (upB 81 59).toArray) (i := 58) (fuel := 22) (v := ?v2x58) rfl HNS.out (by kernel_rfl) (by kernel_rfl) (by kernel_rfl) (fun _ _ _ h => h) (by kernel_rfl) ?y2x58 k6 ?r2x58
            case y2x58 => (intro W hSw; go_simp; first | done | with_reducible rfl)
            try simp only [Act.put, List.setIfInBounds_toArray, List.set_cons_zero, List.set_cons_succ]
            refine wpAnyH_takeD (l' := (upB 81 60).toArray) (i := 59) (fuel := 21) (v := ?v2x59) rfl HNS.out (by kernel_rfl) (by kernel_rfl) (by kernel_rfl) (fun _ _ _ h => h) (by kernel_rfl) ?y2x59 k6 ?r2x59
            case y2x59 => (intro W hSw; go_simp; first | done | with_reducible rfl)
            try simp only [Act.put, List.setIfInBounds_toArray, List.set_cons_zero, List.set_cons_succ]
            refine wpAnyH_takeD (l' := (upB 81 61).toArray) (i := 60) (fuel := 20) (v := ?v2x60) rfl HNS.out (by kernel_rfl) (by kernel_rfl) (by kernel_rfl) (fun _ _ _ h => h) (by kernel_rfl) ?y2x60 k6 ?r2x60
            case y2x60 => (intro W hSw; go_simp; first | done | with_reducible rfl)
            try simp only [Act.put, List.setIfInBounds_toArray, List.set_cons_zero, List.set_cons_succ]
            refine wpAnyH_takeD (l' := (upB 81 62).toArray) (i := 61) (fuel := 19) (v := ?v2x61) rfl HNS.out (by kernel_rfl) (by kernel_rfl) (by kernel_rfl) (fun _ _ _ h => h) (by kernel_rfl) ?y2x61 k6 ?r2x61
            case y2x61 => (intro W hSw; (try dsimp only at hSw); go_simp; first | done | with_reducible rfl)
            try simp only [Act.put, List.setIfInBounds_toArray, List.set_cons_zero, List.set_cons_succ]
            refine wpAnyH_takeD (l' := (upB 81 63).toArray) (i := 62) (fuel := 18) (v := ?v2x62) rfl HNS.out (by kernel_rfl) (by kernel_rfl) (by kernel_rfl) (fun _ _ _ h => h) (by kernel_rfl) ?y2x62 k6 ?r2x62
            case y2x62 => (intro W hSw; go_simp; first | done | with_reducible rfl)
            try simp only [Act.put, List.setIfInBounds_toArray, List.set_cons_zero, List.set_cons_succ]
            refine wpAnyH_takeD (l' := (upB 81 64).toArray) (i := 63) (fuel := 17) (v := ?v2x63) rfl HNS.out (by kernel_rfl) (by kernel_rfl) (by kernel_rfl) (fun _ _ _ h => h) (by kernel_rfl) ?y2x63 k6 ?r2x63
            case y2x63 => (intro W hSw; (try dsimp only at hSw); go_simp; first | done | with_reducible rfl)
            try simp only [Act.put, List.setIfInBounds_toArray, List.set_cons_zero, List.set_cons_succ]
            refine wpAnyH_takeD (l' := (upB 81 65).toArray) (i := 64) (fuel := 16) (v := ?v2x64) rfl HNS.out (by kernel_rfl) (by kernel_rfl) (by kernel_rfl) (fun _ _ _ h => h) (by kernel_rfl) ?y2x64 k6 ?r2x64
            case y2x64 => (intro W hSw; go_simp; first | done | with_reducible rfl)
            try simp only [Act.put, List.setIfInBounds_toArray, List.set_cons_zero, List.set_cons_succ]
            refine wpAnyH_takeD (l' := (upB 81 66).toArray) (i := 65) (fuel := 15) (v := ?v2x65) rfl HNS.out (by kernel_rfl) (by kernel_rfl) (by kernel_rfl) (fun _ _ _ h => h) (by kernel_rfl) ?y2x65 k6 ?r2x65
            case y2x65 => (intro W hSw; go_simp; first | done | with_reducible rfl)
            try simp only [Act.put, List.setIfInBounds_toArray, List.set_cons_zero, List.set_cons_succ]
            refine wpAnyH_takeD (l' := (upB 81 67).toArray) (i := 66) (fuel := 14) (v := ?v2x66) rfl HNS.out (by kernel_rfl) (by kernel_rfl) (by kernel_rfl) (fun _ _ _ h => h) (by kernel_rfl) ?y2x66 k6 ?r2x66
            case y2x66 => (intro W hSw; go_simp; first | done | with_reducible rfl)
            try simp only [Act.put, List.setIfInBounds_toArray, List.set_cons_zero, List.set_cons_succ]
            refine wpAnyH_takeD (l' := (upB 81 68).toArray) (i := 67) (fuel := 13) (v := ?v2x67) rfl HNS.out (by kernel_rfl) (by kernel_rfl) (by kernel_rfl) (fun _ _ _ h => h) (by kernel_rfl) ?y2x67 k6 ?r2x67
            case y2x67 => (intro W hSw; go_simp; first | done | with_reducible rfl)
            try simp only [Act.put, List.setIfInBounds_toArray, List.set_cons_zero, List.set_cons_succ]
            refine wpAnyH_takeD (l' := (upB 81 69).toArray) (i := 68) (fuel := 12) (v := ?v2x68) rfl HNS.out (by kernel_rfl) (by kernel_rfl) (by kernel_rfl) (fun _ _ _ h => h) (by kernel_rfl) ?y2x68 k6 ?r2x68
            case y2x68 => (intro W hSw; go_simp; first | done | with_reducible rfl)
            try simp only [Act.put, List.setIfInBounds_toArray, List.set_cons_zero, List.set_cons_succ]
            refine wpAnyH_takeD (l' := (upB 81 70).toArray) (i := 69) (fuel := 11) (v := ?v2x69) rfl HNS.out (by kernel_rfl) (by kernel_rfl) (by kernel_rfl) (fun _ _ _ h => h) (by kernel_rfl) ?y2x69 k6 ?r2x69
            case y2x69 => (intro W hSw; (try dsimp only at hSw); go_simp; first | done | with_reducible rfl)
            try simp only [Act.put, List.setIfInBounds_toArray, List.set_cons_zero, List.set_cons_succ]
            refine wpAnyH_takeD (l' := (upB 81 71).toArray) (i := 70) (fuel := 10) (v := ?v2x70) rfl HNS.out (by kernel_rfl) (by kernel_rfl) (by kernel_rfl) (fun _ _ _ h => h) (by kernel_rfl) ?y2x70 k6 ?r2x70
            case y2x70 => (intro W hSw; go_simp; first | done | with_reducible rfl)
            try simp only [Act.put, List.setIfInBounds_toArray, List.set_cons_zero, List.set_cons_succ]
            refine wpAnyH_takeD (l' := (upB 81 72).toArray) (i := 71) (fuel := 9) (v := ?v2x71) rfl HNS.out (by kernel_rfl) (by kernel_rfl) (by kernel_rfl) (fun _ _ _ h => h) (by kernel_rfl) ?y2x71 k6 ?r2x71
            case y2x71 => (intro W hSw; (try dsimp only at hSw); go_simp; first | done | with_reducible rfl)
            try simp only [Act.put, List.setIfInBounds_toArray, List.set_cons_zero, List.set_cons_succ]
            refine wpAnyH_takeD (l' := (upB 81 73).toArray) (i := 72) (fuel := 8) (v := ?v2x72) rfl HNS.out (by kernel_rfl) (by kernel_rfl) (by kernel_rfl) (fun _ _ _ h => h) (by kernel_rfl) ?y2x72 k6 ?r2x72
            case y2x72 => (intro W hSw; go_simp; first | done | with_reducible rfl)
            try simp only [Act.put, List.setIfInBounds_toArray, List.set_cons_zero, List.set_cons_succ]
            refine wpAnyH_takeD (l' := (upB 81 74).toArray) (i := 73) (fuel := 7) (v := ?v2x73) rfl HNS.out (by kernel_rfl) (by kernel_rfl) (by kernel_rfl) (fun _ _ _ h => h) (by kernel_rfl) ?y2x73 k6 ?r2x73
            case y2x73 => (intro W hSw; go_simp; first | done | with_reducible rfl)
            try simp only [Act.put, List.setIfInBounds_toArray, List.set_cons_zero, List.set_cons_succ]
            refine wpAnyH_takeD (l' := (upB 81 75).toArray) (i := 74) (fuel := 6) (v := ?v2x74) rfl HNS.out (by kernel_rfl) (by kernel_rfl) (by kernel_rfl) (fun _ _ _ h => h) (by kernel_rfl) ?y2x74 k6 ?r2x74
            case y2x74 => (intro W hSw; (try dsimp only at hSw); go_simp; first | done | with_reducible rfl)
            try simp only [Act.put, List.setIfInBounds_toArray, List.set_cons_zero, List.set_cons_succ]
            refine wpAnyH_takeD (l' := (upB 81 76).toArray) (i := 75) (fuel := 5) (v := ?v2x75) rfl HNS.out (by kernel_rfl) (by kernel_rfl) (by kernel_rfl) (fun _ _ _ h => h) (by kernel_rfl) ?y2x75 k6 ?r2x75
            case y2x75 => (intro W hSw; go_simp; first | done | with_reducible rfl)
            try simp only [Act.put, List.setIfInBounds_toArray, List.set_cons_zero, List.set_cons_succ]
            refine wpAnyH_takeD (l' := (upB 81 77).toArray) (i := 76) (fuel := 4) (v := ?v2x76) rfl HNS.out (by kernel_rfl) (by kernel_rfl) (by kernel_rfl) (fun _ _ _ h => h) (by kernel_rfl) ?y2x76 k6 ?r2x76
            case y2x76 => (intro W hSw; (try dsimp only at hSw); go_simp; first | done | with_reducible rfl)
            try simp only [Act.put, List.setIfInBounds_toArray, List.set_cons_zero, List.set_cons_succ]
            refine wpAnyH_takeD (l' := (upB 81 78).toArray) (i := 77) (fuel := 3) (v := ?v2x77) rfl HNS.out (by kernel_rfl) (by kernel_rfl) (by kernel_rfl) (fun _ _ _ h => h) (by kernel_rfl) ?y2x77 k6 ?r2x77
            case y2x77 => (intro W hSw; go_simp; first | done | with_reducible rfl)
            try simp only [Act.put, List.setIfInBounds_toArray, List.set_cons_zero, List.set_cons_succ]
            refine wpAnyH_oneD (l' := (upB 81 79).toArray) (i := 78) (fuel := 2) rfl (by kernel_rfl) (by kernel_rfl) (fun Kc hK => ?_)
            go_simp
            go_at_call 29
            refine (HSL.out _ hb6).mono ?_
            rintro e w7 ⟨rfl, hb7⟩
            have k7 := HKEEP.out w7 hb7
            go_wp2_with fail
            refine hK.out _ _ k7 (fun _ => ?_)
            clear hK Kc
            try simp only [Act.put, List.setIfInBounds_toArray, List.set_cons_zero, List.set_cons_succ]
            refine wpAnyH_takeD (l' := (upB 81 80).toArray) (i := 79) (fuel := 1) (v := ?v2x79) rfl HNS.out (by kernel_rfl) (by kernel_rfl) (by kernel_rfl) (fun _ _ _ h => h) (by kernel_rfl) ?y2x79 k7 ?r2x79
            case y2x79 => (intro W hSw; go_simp; first | done | with_reducible rfl)
            try simp only [Act.put, List.setIfInBounds_toArray, List.set_cons_zero, List.set_cons_succ]
            refine wpAnyH_takeD (l' := (upB 81 81).toArray) (i := 80) (fuel := 0) (v := ?v2x80) rfl HNS.out (by kernel_rfl) (by kernel_rfl) (by kernel_rfl) (fun _ _ _ h => h) (by kernel_rfl) ?y2x80 k7 ?r2x80
            case y2x80 => (intro W hSw; go_simp; first | done | with_reducible rfl)
            try simp only [Act.put, List.setIfInBounds_toArray, List.set_cons_zero, List.set_cons_succ]
            refine wpAnyH_done (by kernel_rfl) ?_ _
            go_wp2_with fail
            go_meet
            case rel => exact ⟨rfl, hb7⟩

        case neg =>
          have v2 : (X.vote != 0) = true := by simp [e2]
          have v3 : (Y.vote != X.vote) = false := by simp [HVT.out e1 e2]
          clear e1 e2 HVT
          as_aux_lemma =>
            refine wp_region_heldD (S := fun W => W.cell? ⟨BN, 0, none⟩ = some (.int .i64 Y.n) ∧ W.cell? ⟨BN, 1, none⟩ = some (.int .i64 Y.id) ∧ W.cell? ⟨BN, 2, none⟩ = some (.int .i64 Y.term) ∧ W.cell? ⟨BN, 3, none⟩ = some (.int .i64 Y.vote) ∧ W.cell? ⟨BN, 4, none⟩ = some (.slice lo5 Y.log.length lc5) ∧ W.cell? ⟨BN, 5, none⟩ = some (.int .i64 Y.role) ∧ W.cell? ⟨BN, 6, none⟩ = some (.int .i64 Y.com) ∧ W.cell? ⟨BN, 7, none⟩ = some (.slice vo5 Y.votes.length vc5) ∧ W.cell? ⟨BN, 8, none⟩ = some (.slice no5 Y.next.length nc5) ∧ W.cell? ⟨BN, 9, none⟩ = some (.slice ho5 Y.hav.length hc5) ∧ W.cell? ⟨w.heap.size, 0, none⟩ = some (.int .i64 X.n) ∧ W.cell? ⟨w.heap.size, 1, none⟩ = some (.int .i64 X.id) ∧ W.cell? ⟨w.heap.size, 2, none⟩ = some (.int .i64 X.term) ∧ W.cell? ⟨w.heap.size, 3, none⟩ = some (.int .i64 X.vote) ∧ W.cell? ⟨w.heap.size, 4, none⟩ = some (.slice lo0 X.log.length lc0) ∧ W.cell? ⟨w.heap.size, 6, none⟩ = some (.int .i64 X.com)) (n := 81) (l := (upB 81 0).toArray) (by kernel_rfl) (by kernel_rfl) (by kernel_rfl) (by kernel_rfl) (HKEEP.out _ HDR.out) (fun HNS hHeld => ?_)
            refine wpAnyH_takeD (l' := (upB 81 1).toArray) (i := 0) (fuel := 80) (v := ?v3x0) rfl HNS.out (by kernel_rfl) (by kernel_rfl) (by kernel_rfl) (fun _ _ _ h => h) (by kernel_rfl) ?y3x0 hHeld ?r3x0
            case y3x0 => (intro W hSw; (try dsimp only at hSw); go_simp; first | done | with_reducible rfl)
            try simp only [Act.put, List.setIfInBounds_toArray, List.set_cons_zero, List.set_cons_succ]
            refine wpAnyH_oneD (l' := (upB 81 2).toArray) (i := 1) (fuel := 79) rfl (by kernel_rfl) (by kernel_rfl) (fun Kc hK => ?_)
            go_simp
            go_at_call 15
            refine HCK.out.mono ?_
            rintro e w6 ⟨rfl, hb6⟩
            have k6 := HKEEP.out w6 hb6
            go_wp2_with fail
            refine hK.out _ _ k6 (fun _ => ?_)
            clear hK Kc
            try simp only [Act.put, List.setIfInBounds_toArray, List.set_cons_zero, List.set_cons_succ]
            refine wpAnyH_takeD (l' := (upB 81 3).toArray) (i := 2) (fuel := 78) (v := ?v3x2) rfl HNS.out (by kernel_rfl) (by kernel_rfl) (by kernel_rfl) (fun _ _ _ h => h) (by kernel_rfl) ?y3x2 k6 ?r3x2
            case y3x2 => (intro W hSw; go_simp; first | done | with_reducible rfl)
            try simp only [Act.put, List.setIfInBounds_toArray, List.set_cons_zero, List.set_cons_succ]
            refine wpAnyH_takeD (l' := (upB 81 4).toArray) (i := 3) (fuel := 77) (v := ?v3x3) rfl HNS.out (by kernel_rfl) (by kernel_rfl) (by kernel_rfl) (fun _ _ _ h => h) (by kernel_rfl) ?y3x3 k6 ?r3x3
            case y3x3 => (intro W hSw; go_simp; first | done | with_reducible rfl)
            try simp only [Act.put, List.setIfInBounds_toArray, List.set_cons_zero, List.set_cons_succ]
            refine wpAnyH_takeD (l' := (upB 81 5).toArray) (i := 4) (fuel := 76) (v := ?v3x4) rfl HNS.out (by kernel_rfl) (by kernel_rfl) (by kernel_rfl) (fun _ _ _ h => h) (by kernel_rfl) ?y3x4 k6 ?r3x4
            case y3x4 => (intro W hSw; go_simp; first | done | with_reducible rfl)
            try simp only [Act.put, List.setIfInBounds_toArray, List.set_cons_zero, List.set_cons_succ]
            refine wpAnyH_takeD (l' := (upB 81 6).toArray) (i := 5) (fuel := 75) (v := ?v3x5) rfl HNS.out (by kernel_rfl) (by kernel_rfl) (by kernel_rfl) (fun _ _ _ h => h) (by kernel_rfl) ?y3x5 k6 ?r3x5
            case y3x5 => (intro W hSw; go_simp; first | done | with_reducible rfl)
            try simp only [Act.put, List.setIfInBounds_toArray, List.set_cons_zero, List.set_cons_succ]
            refine wpAnyH_takeD (l' := (upB 81 7).toArray) (i := 6) (fuel := 74) (v := ?v3x6) rfl HNS.out (by kernel_rfl) (by kernel_rfl) (by kernel_rfl) (fun _ _ _ h => h) (by kernel_rfl) ?y3x6 k6 ?r3x6
            case y3x6 => (intro W hSw; (try dsimp only at hSw); go_simp; first | done | with_reducible rfl)
            try simp only [Act.put, List.setIfInBounds_toArray, List.set_cons_zero, List.set_cons_succ]
            refine wpAnyH_takeD (l' := (upB 81 8).toArray) (i := 7) (fuel := 73) (v := ?v3x7) rfl HNS.out (by kernel_rfl) (by kernel_rfl) (by kernel_rfl) (fun _ _ _ h => h) (by kernel_rfl) ?y3x7 k6 ?r3x7
            case y3x7 => (intro W hSw; go_simp; first | done | with_reducible rfl)
            try simp only [Act.put, List.setIfInBounds_toArray, List.set_cons_zero, List.set_cons_succ]
            refine wpAnyH_takeD (l' := (upB 81 9).toArray) (i := 8) (fuel := 72) (v := ?v3x8) rfl HNS.out (by kernel_rfl) (by kernel_rfl) (by kernel_rfl) (fun _ _ _ h => h) (by kernel_rfl) ?y3x8 k6 ?r3x8
            case y3x8 => (intro W hSw; (try dsimp only at hSw); go_simp; first | done | with_reducible rfl)
            try simp only [Act.put, List.setIfInBounds_toArray, List.set_cons_zero, List.set_cons_succ]
            refine wpAnyH_takeD (l' := (upB 81 10).toArray) (i := 9) (fuel := 71) (v := ?v3x9) rfl HNS.out (by kernel_rfl) (by kernel_rfl) (by kernel_rfl) (fun _ _ _ h => h) (by kernel_rfl) ?y3x9 k6 ?r3x9
            case y3x9 => (intro W hSw; go_simp; first | done | with_reducible rfl)
            try simp only [Act.put, List.setIfInBounds_toArray, List.set_cons_zero, List.set_cons_succ]
            refine wpAnyH_takeD (l' := (upB 81 11).toArray) (i := 10) (fuel := 70) (v := ?v3x10) rfl HNS.out (by kernel_rfl) (by kernel_rfl) (by kernel_rfl) (fun _ _ _ h => h) (by kernel_rfl) ?y3x10 k6 ?r3x10
            case y3x10 => (intro W hSw; go_simp; first | done | with_reducible rfl)
            try simp only [Act.put, List.setIfInBounds_toArray, List.set_cons_zero, List.set_cons_succ]
            refine wpAnyH_takeD (l' := (upB 81 12).toArray) (i := 11) (fuel := 69) (v := ?v3x11) rfl HNS.out (by kernel_rfl) (by kernel_rfl) (by kernel_rfl) (fun _ _ _ h => h) (by kernel_rfl) ?y3x11 k6 ?r3x11
            case y3x11 => (intro W hSw; go_simp; first | done | with_reducible rfl)
            try simp only [Act.put, List.setIfInBounds_toArray, List.set_cons_zero, List.set_cons_succ]
            refine wpAnyH_takeD (l' := (upB 81 13).toArray) (i := 12) (fuel := 68) (v := ?v3x12) rfl HNS.out (by kernel_rfl) (by kernel_rfl) (by kernel_rfl) (fun _ _ _ h => h) (by kernel_rfl) ?y3x12 k6 ?r3x12
            case y3x12 => (intro W hSw; go_simp; first | done | with_reducible rfl)
            try simp only [Act.put, List.setIfInBounds_toArray, List.set_cons_zero, List.set_cons_succ]
            refine wpAnyH_takeD (l' := (upB 81 14).toArray) (i := 13) (fuel := 67) (v := ?v3x13) rfl HNS.out (by kernel_rfl) (by kernel_rfl) (by kernel_rfl) (fun _ _ _ h => h) (by kernel_rfl) ?y3x13 k6 ?r3x13
            case y3x13 => (intro W hSw; (try dsimp only at hSw); go_simp; first | done | with_reducible rfl)
            try simp only [Act.put, List.setIfInBounds_toArray, List.set_cons_zero, List.set_cons_succ]
            refine wpAnyH_takeD (l' := (upB 81 15).toArray) (i := 14) (fuel := 66) (v := ?v3x14) rfl HNS.out (by kernel_rfl) (by kernel_rfl) (by kernel_rfl) (fun _ _ _ h => h) (by kernel_rfl) ?y3x14 k6 ?r3x14
            case y3x14 => (intro W hSw; go_simp; first | done | with_reducible rfl)
            try simp only [Act.put, List.setIfInBounds_toArray, List.set_cons_zero, List.set_cons_succ]
            refine wpAnyH_takeD (l' := (upB 81 16).toArray) (i := 15) (fuel := 65) (v := ?v3x15) rfl HNS.out (by kernel_rfl) (by kernel_rfl) (by kernel_rfl) (fun _ _ _ h => h) (by kernel_rfl) ?y3x15 k6 ?r3x15
            case y3x15 => (intro W hSw; (try dsimp only at hSw); go_simp; first | done | with_reducible rfl)
            try simp only [Act.put, List.setIfInBounds_toArray, List.set_cons_zero, List.set_cons_succ]
            refine wpAnyH_takeD (l' := (upB 81 17).toArray) (i := 16) (fuel := 64) (v := ?v3x16) rfl HNS.out (by kernel_rfl) (by kernel_rfl) (by kernel_rfl) (fun _ _ _ h => h) (by kernel_rfl) ?y3x16 k6 ?r3x16
            case y3x16 => (intro W hSw; go_simp; first | done | with_reducible rfl)
            try simp only [Act.put, List.setIfInBounds_toArray, List.set_cons_zero, List.set_cons_succ]
            refine wpAnyH_takeD (l' := (upB 81 18).toArray) (i := 17) (fuel := 63) (v := ?v3x17) rfl HNS.out (by kernel_rfl) (by kernel_rfl) (by kernel_rfl) (fun _ _ _ h => h) (by kernel_rfl) ?y3x17 k6 ?r3x17
            case y3x17 => (intro W hSw; go_simp; first | done | with_reducible rfl)
            try simp only [Act.put, List.setIfInBounds_toArray, List.set_cons_zero, List.set_cons_succ]
            refine wpAnyH_takeD (l' := (upB 81 19).toArray) (i := 18) (fuel := 62) (v := ?v3x18) rfl HNS.out (by kernel_rfl) (by kernel_rfl) (by kernel_rfl) (fun _ _ _ h => h) (by kernel_rfl) ?y3x18 k6 ?r3x18
            case y3x18 => (intro W hSw; go_simp; first | done | with_reducible rfl)
            try simp only [Act.put, List.setIfInBounds_toArray, List.set_cons_zero, List.set_cons_succ]
            refine wpAnyH_takeD (l' := (upB 81 20).toArray) (i := 19) (fuel := 61) (v := ?v3x19) rfl HNS.out (by kernel_rfl) (by kernel_rfl) (by kernel_rfl) (fun _ _ _ h => h) (by kernel_rfl) ?y3x19 k6 ?r3x19
            case y3x19 => (intro W hSw; go_simp; first | done | with_reducible rfl)
            try simp only [Act.put, List.setIfInBounds_toArray, List.set_cons_zero, List.set_cons_succ]
            refine wpAnyH_takeD (l' := (upB 81 21).toArray) (i := 20) (fuel := 60) (v := ?v3x20) rfl HNS.out (by kernel_rfl) (by kernel_rfl) (by kernel_rfl) (fun _ _ _ h => h) (by kernel_rfl) ?y3x20 k6 ?r3x20
            case y3x20 => (intro W hSw; (try dsimp only at hSw); go_simp; first | done | with_reducible rfl)
            try simp only [Act.put, List.setIfInBounds_toArray, List.set_cons_zero, List.set_cons_succ]
            refine wpAnyH_takeD (l' := (upB 81 22).toArray) (i := 21) (fuel := 59) (v := ?v3x21) rfl HNS.out (by kernel_rfl) (by kernel_rfl) (by kernel_rfl) (fun _ _ _ h => h) (by kernel_rfl) ?y3x21 k6 ?r3x21
            case y3x21 => (intro W hSw; go_simp; first | done | with_reducible rfl)
            try simp only [Act.put, List.setIfInBounds_toArray, List.set_cons_zero, List.set_cons_succ]
            refine wpAnyH_takeD (l' := (upB 81 23).toArray) (i := 22) (fuel := 58) (v := ?v3x22) rfl HNS.out (by kernel_rfl) (by kernel_rfl) (by kernel_rfl) (fun _ _ _ h => h) (by kernel_rfl) ?y3x22 k6 ?r3x22
            case y3x22 => (intro W hSw; (try dsimp only at hSw); go_simp; first | done | with_reducible rfl)
            try simp only [Act.put, List.setIfInBounds_toArray, List.set_cons_zero, List.set_cons_succ]
            refine wpAnyH_takeD (l' := (upB 81 24).toArray) (i := 23) (fuel := 57) (v := ?v3x23) rfl HNS.out (by kernel_rfl) (by kernel_rfl) (by kernel_rfl) (fun _ _ _ h => h) (by kernel_rfl) ?y3x23 k6 ?r3x23
            case y3x23 => (intro W hSw; go_simp; first | done | with_reducible rfl)
            try simp only [Act.put, List.setIfInBounds_toArray, List.set_cons_zero, List.set_cons_succ]
            refine wpAnyH_takeD (l' := (upB 81 25).toArray) (i := 24) (fuel := 56) (v := ?v3x24) rfl HNS.out (by kernel_rfl) (by kernel_rfl) (by kernel_rfl) (fun _ _ _ h => h) (by kernel_rfl) ?y3x24 k6 ?r3x24
            case y3x24 => (intro W hSw; go_simp; first | done | with_reducible rfl)
            try simp only [Act.put, List.setIfInBounds_toArray, List.set_cons_zero, List.set_cons_succ]
            refine wpAnyH_takeD (l' := (upB 81 26).toArray) (i := 25) (fuel := 55) (v := ?v3x25) rfl HNS.out (by kernel_rfl) (by kernel_rfl) (by kernel_rfl) (fun _ _ _ h => h) (by kernel_rfl) ?y3x25 k6 ?r3x25
            case y3x25 => (intro W hSw; go_simp; first | done | with_reducible rfl)
            try simp only [Act.put, List.setIfInBounds_toArray, List.set_cons_zero, List.set_cons_succ]
            refine wpAnyH_takeD (l' := (upB 81 27).toArray) (i := 26) (fuel := 54) (v := ?v3x26) rfl HNS.out (by kernel_rfl) (by kernel_rfl) (by kernel_rfl) (fun _ _ _ h => h) (by kernel_rfl) ?y3x26 k6 ?r3x26
            case y3x26 => (intro W hSw; go_simp; first | done | with_reducible rfl)
            try simp only [Act.put, List.setIfInBounds_toArray, List.set_cons_zero, List.set_cons_succ]
            refine wpAnyH_takeD (l' := (upB 81 28).toArray) (i := 27) (fuel := 53) (v := ?v3x27) rfl HNS.out (by kernel_rfl) (by kernel_rfl) (by kernel_rfl) (fun _ _ _ h => h) (by kernel_rfl) ?y3x27 k6 ?r3x27
            case y3x27 => (intro W hSw; (try dsimp only at hSw); go_simp; first | done | with_reducible rfl)
            try simp only [Act.put, List.setIfInBounds_toArray, List.set_cons_zero, List.set_cons_succ]
            refine wpAnyH_takeD (l' := (upB 81 29).toArray) (i := 28) (fuel := 52) (v := ?v3x28) rfl HNS.out (by kernel_rfl) (by kernel_rfl) (by kernel_rfl) (fun _ _ _ h => h) (by kernel_rfl) ?y3x28 k6 ?r3x28
            case y3x28 => (intro W hSw; go_simp; first | done | with_reducible rfl)
            try simp only [Act.put, List.setIfInBounds_toArray, List.set_cons_zero, List.set_cons_succ]
            refine wpAnyH_takeD (l' := (upB 81 30).toArray) (i := 29) (fuel := 51) (v := ?v3x29) rfl HNS.out (by kernel_rfl) (by kernel_rfl) (by kernel_rfl) (fun _ _ _ h => h) (by kernel_rfl) ?y3x29 k6 ?r3x29
            case y3x29 => (intro W hSw; (try dsimp only at hSw); go_simp; first | done | with_reducible rfl)
            try simp only [Act.put, List.setIfInBounds_toArray, List.set_cons_zero, List.set_cons_succ]
            refine wpAnyH_takeD (l' := (upB 81 31).toArray) (i := 30) (fuel := 50) (v := ?v3x30) rfl HNS.out (by kernel_rfl) (by kernel_rfl) (by kernel_rfl) (fun _ _ _ h => h) (by kernel_rfl) ?y3x30 k6 ?r3x30
            case y3x30 => (intro W hSw; go_simp; first | done | with_reducible rfl)
            try simp only [Act.put, List.setIfInBounds_toArray, List.set_cons_zero, List.set_cons_succ]
            refine wpAnyH_takeD (l' := (upB 81 32).toArray) (i := 31) (fuel := 49) (v := ?v3x31) rfl HNS.out (by kernel_rfl) (by kernel_rfl) (by kernel_rfl) (fun _ _ _ h => h) (by kernel_rfl) ?y3x31 k6 ?r3x31
            case y3x31 => (intro W hSw; go_simp; first | done | with_reducible rfl)
            try simp only [Act.put, List.setIfInBounds_toArray, List.set_cons_zero, List.set_cons_succ]
            refine wpAnyH_takeD (l' := (upB 81 33).toArray) (i := 32) (fuel := 48) (v := ?v3x32) rfl HNS.out (by kernel_rfl) (by kernel_rfl) (by kernel_rfl) (fun _ _ _ h => h) (by kernel_rfl) ?y3x32 k6 ?r3x32
            case y3x32 => (intro W hSw; go_simp; first | done | with_reducible rfl)
            try simp only [Act.put, List.setIfInBounds_toArray, List.set_cons_zero, List.set_cons_succ]
            refine wpAnyH_takeD (l' := (upB 81 34).toArray) (i := 33) (fuel := 47) (v := ?v3x33) rfl HNS.out (by kernel_rfl) (by kernel_rfl) (by kernel_rfl) (fun _ _ _ h => h) (by kernel_rfl) ?y3x33 k6 ?r3x33
            case y3x33 => (intro W hSw; (try dsimp only at hSw); go_simp; first | done | with_reducible rfl)
            try simp only [Act.put, List.setIfInBounds_toArray, List.set_cons_zero, List.set_cons_succ]
            refine wpAnyH_takeD (l' := (upB 81 35).toArray) (i := 34) (fuel := 46) (v := ?v3x34) rfl HNS.out (by kernel_rfl) (by kernel_rfl) (by kernel_rfl) (fun _ _ _ h => h) (by kernel_rfl) ?y3x34 k6 ?r3x34
            case y3x34 => (intro W hSw; go_simp; first | done | with_reducible rfl)
            try simp only [Act.put, List.setIfInBounds_toArray, List.set_cons_zero, List.set_cons_succ]
            refine wpAnyH_takeD (l' := (upB 81 36).toArray) (i := 35) (fuel := 45) (v := ?v3x35) rfl HNS.out (by kernel_rfl) (by kernel_rfl) (by kernel_rfl) (fun _ _ _ h => h) (by kernel_rfl) ?y3x35 k6 ?r3x35
            case y3x35 => (intro W hSw; go_simp; first | done | with_reducible rfl)
            try simp only [Act.put, List.setIfInBounds_toArray, List.set_cons_zero, List.set_cons_succ]
            refine wpAnyH_takeD (l' := (upB 81 37).toArray) (i := 36) (fuel := 44) (v := ?v3x36) rfl HNS.out (by kernel_rfl) (by kernel_rfl) (by kernel_rfl) (fun _ _ _ h => h) (by kernel_rfl) ?y3x36 k6 ?r3x36
            case y3x36 => (intro W hSw; go_simp; first | done | with_reducible rfl)
            try simp only [Act.put, List.setIfInBounds_toArray, List.set_cons_zero, List.set_cons_succ]
            refine wpAnyH_takeD (l' := (upB 81 38).toArray) (i := 37) (fuel := 43) (v := ?v3x37) rfl HNS.out (by kernel_rfl) (by kernel_rfl) (by kernel_rfl) (fun _ _ _ h => h) (by kernel_rfl) ?y3x37 k6 ?r3x37
            case y3x37 => (intro W hSw; go_simp; first | done | with_reducible rfl)
            try simp only [Act.put, List.setIfInBounds_toArray, List.set_cons_zero, List.set_cons_succ]
            refine wpAnyH_takeD (l' := (upB 81 39).toArray) (i := 38) (fuel := 42) (v := ?v3x38) rfl HNS.out (by kernel_rfl) (by kernel_rfl) (by kernel_rfl) (fun _ _ _ h => h) (by kernel_rfl) ?y3x38 k6 ?r3x38
            case y3x38 => (intro W hSw; (try dsimp only at hSw); go_simp; first | done | with_reducible rfl)
            try simp only [Act.put, List.setIfInBounds_toArray, List.set_cons_zero, List.set_cons_succ]
            refine wpAnyH_takeD (l' := (upB 81 40).toArray) (i := 39) (fuel := 41) (v := ?v3x39) rfl HNS.out (by kernel_rfl) (by kernel_rfl) (by kernel_rfl) (fun _ _ _ h => h) (by kernel_rfl) ?y3x39 k6 ?r3x39
            case y3x39 => (intro W hSw; go_simp; first | done | with_reducible rfl)
            try simp only [Act.put, List.setIfInBounds_toArray, List.set_cons_zero, List.set_cons_succ]
            refine wpAnyH_takeD (l' := (upB 81 41).toArray) (i := 40) (fuel := 40) (v := ?v3x40) rfl HNS.out (by kernel_rfl) (by kernel_rfl) (by kernel_rfl) (fun _ _ _ h => h) (by kernel_rfl) ?y3x40 k6 ?r3x40
            case y3x40 => (intro W hSw; (try dsimp only at hSw); go_simp; first | done | with_reducible rfl)
            try simp only [Act.put, List.setIfInBounds_toArray, List.set_cons_zero, List.set_cons_succ]
            refine wpAnyH_takeD (l' := (upB 81 42).toArray) (i := 41) (fuel := 39) (v := ?v3x41) rfl HNS.out (by kernel_rfl) (by kernel_rfl) (by kernel_rfl) (fun _ _ _ h => h) (by kernel_rfl) ?y3x41 k6 ?r3x41
            case y3x41 => (intro W hSw; go_simp; first | done | with_reducible rfl)
            try simp only [Act.put, List.setIfInBounds_toArray, List.set_cons_zero, List.set_cons_succ]
            refine wpAnyH_takeD (l' := (upB 81 43).toArray) (i := 42) (fuel := 38) (v := ?v3x42) rfl HNS.out (by kernel_rfl) (by kernel_rfl) (by kernel_rfl) (fun _ _ _ h => h) (by kernel_rfl) ?y3x42 k6 ?r3x42
            case y3x42 => (intro W hSw; go_simp; first | done | with_reducible rfl)
            try simp only [Act.put, List.setIfInBounds_toArray, List.set_cons_zero, List.set_cons_succ]
            refine wpAnyH_takeD (l' := (upB 81 44).toArray) (i := 43) (fuel := 37) (v := ?v3x43) rfl HNS.out (by kernel_rfl) (by kernel_rfl) (by kernel_rfl) (fun _ _ _ h => h) (by kernel_rfl) ?y3x43 k6 ?r3x43
            case y3x43 => (intro W hSw; go_simp; first | done | with_reducible rfl)
            try simp only [Act.put, List.setIfInBounds_toArray, List.set_cons_zero, List.set_cons_succ]
            refine wpAnyH_takeD (l' := (upB 81 45).toArray) (i := 44) (fuel := 36) (v := ?v3x44) rfl HNS.out (by kernel_rfl) (by kernel_rfl) (by kernel_rfl) (fun _ _ _ h => h) (by kernel_rfl) ?y3x44 k6 ?r3x44
            case y3x44 => (intro W hSw; go_simp; first | done | with_reducible rfl)
            try simp only [Act.put, List.setIfInBounds_toArray, List.set_cons_zero, List.set_cons_succ]
            refine wpAnyH_takeD (l' := (upB 81 46).toArray) (i := 45) (fuel := 35) (v := ?v3x45) rfl HNS.out (by kernel_rfl) (by kernel_rfl) (by kernel_rfl) (fun _ _ _ h => h) (by kernel_rfl) ?y3x45 k6 ?r3x45
            case y3x45 => (intro W hSw; go_simp; first | done | with_reducible rfl)
            try simp only [Act.put, List.setIfInBounds_toArray, List.set_cons_zero, List.set_cons_succ]
            refine wpAnyH_takeD (l' := (upB 81 47).toArray) (i := 46) (fuel := 34) (v := ?v3x46) rfl HNS.out (by kernel_rfl) (by kernel_rfl) (by kernel_rfl) (fun _ _ _ h => h) (by kernel_rfl) ?y3x46 k6 ?r3x46
            case y3x46 => (intro W hSw; (try dsimp only at hSw); go_simp; first | done | with_reducible rfl)
            try simp only [Act.put, List.setIfInBounds_toArray, List.set_cons_zero, List.set_cons_succ]
            refine wpAnyH_takeD (l' := (upB 81 48).toArray) (i := 47) (fuel := 33) (v := ?v3x47) rfl HNS.out (by kernel_rfl) (by kernel_rfl) (by kernel_rfl) (fun _ _ _ h => h) (by kernel_rfl) ?y3x47 k6 ?r3x47
            case y3x47 => (intro W hSw; go_simp; first | done | with_reducible rfl)
            try simp only [Act.put, List.setIfInBounds_toArray, List.set_cons_zero, List.set_cons_succ]
            refine wpAnyH_takeD (l' := (upB 81 49).toArray) (i := 48) (fuel := 32) (v := ?v3x48) rfl HNS.out (by kernel_rfl) (by kernel_rfl) (by kernel_rfl) (fun _ _ _ h => h) (by kernel_rfl) ?y3x48 k6 ?r3x48
            case y3x48 => (intro W hSw; (try dsimp only at hSw); go_simp; first | done | with_reducible rfl)
            try simp only [Act.put, List.setIfInBounds_toArray, List.set_cons_zero, List.set_cons_succ]
            refine wpAnyH_takeD (l' := (upB 81 50).toArray) (i := 49) (fuel := 31) (v := ?v3x49) rfl HNS.out (by kernel_rfl) (by kernel_rfl) (by kernel_rfl) (fun _ _ _ h => h) (by kernel_rfl) ?y3x49 k6 ?r3x49
            case y3x49 => (intro W hSw; go_simp; first | done | with_reducible rfl)
            try simp only [Act.put, List.setIfInBounds_toArray, List.set_cons_zero, List.set_cons_succ]
            refine wpAnyH_takeD (l' := (upB 81 51).toArray) (i := 50) (fuel := 30) (v := ?v3x50) rfl HNS.out (by kernel_rfl) (by kernel_rfl) (by kernel_rfl) (fun _ _ _ h => h) (by kernel_rfl) ?y3x50 k6 ?r3x50
            case y3x50 => (intro W hSw; go_simp; first | done | with_reducible rfl)
            try simp only [Act.put, List.setIfInBounds_toArray, List.set_cons_zero, List.set_cons_succ]
            refine wpAnyH_takeD (l' := (upB 81 52).toArray) (i := 51) (fuel := 29) (v := ?v3x51) rfl HNS.out (by kernel_rfl) (by kernel_rfl) (by kernel_rfl) (fun _ _ _ h => h) (by kernel_rfl) ?y3x51 k6 ?r3x51
            case y3x51 => (intro W hSw; go_simp; first | done | with_reducible rfl)
            try simp only [Act.put, List.setIfInBounds_toArray, List.set_cons_zero, List.set_cons_succ]
            refine wpAnyH_takeD (l' := (upB 81 53).toArray) (i := 52) (fuel := 28) (v := ?v3x52) rfl HNS.out (by kernel_rfl) (by kernel_rfl) (by kernel_rfl) (fun _ _ _ h => h) (by kernel_rfl) ?y3x52 k6 ?r3x52
            case y3x52 => (intro W hSw; go_simp; first | done | with_reducible rfl)
            try simp only [Act.put, List.setIfInBounds_toArray, List.set_cons_zero, List.set_cons_succ]
            refine wpAnyH_takeD (l' := (upB 81 54).toArray) (i := 53) (fuel := 27) (v := ?v3x53) rfl HNS.out (by kernel_rfl) (by kernel_rfl) (by kernel_rfl) (fun _ _ _ h => h) (by kernel_rfl) ?y3x53 k6 ?r3x53
            case y3x53 => (intro W hSw; (try dsimp only at hSw); go_simp; first | done | with_reducible rfl)
            try simp only [Act.put, List.setIfInBounds_toArray, List.set_cons_zero, List.set_cons_succ]
            refine wpAnyH_takeD (l' := (upB 81 55).toArray) (i := 54) (fuel := 26) (v := ?v3x54) rfl HNS.out (by kernel_rfl) (by kernel_rfl) (by kernel_rfl) (fun _ _ _ h => h) (by kernel_rfl) ?y3x54 k6 ?r3x54
            case y3x54 => (intro W hSw; go_simp; first | done | with_reducible rfl)
            try simp only [Act.put, List.setIfInBounds_toArray, List.set_cons_zero, List.set_cons_succ]
            refine wpAnyH_takeD (l' := (upB 81 56).toArray) (i := 55) (fuel := 25) (v := ?v3x55) rfl HNS.out (by kernel_rfl) (by kernel_rfl) (by kernel_rfl) (fun _ _ _ h => h) (by kernel_rfl) ?y3x55 k6 ?r3x55
            case y3x55 => (intro W hSw; (try dsimp only at hSw); go_simp; first | done | with_reducible rfl)
            try simp only [Act.put, List.setIfInBounds_toArray, List.set_cons_zero, List.set_cons_succ]
            refine wpAnyH_takeD (l' := (upB 81 57).toArray) (i := 56) (fuel := 24) (v := ?v3x56) rfl HNS.out (by kernel_rfl) (by kernel_rfl) (by kernel_rfl) (fun _ _ _ h => h) (by kernel_rfl) ?y3x56 k6 ?r3x56
            case y3x56 => (intro W hSw; go_simp; first | done | with_reducible rfl)
            try simp only [Act.put, List.setIfInBounds_toArray, List.set_cons_zero, List.set_cons_succ]
            refine wpAnyH_takeD (l' := (upB 81 58).toArray) (i := 57) (fuel := 23) (v := ?v3x57) rfl HNS.out (by kernel_rfl) (by kernel_rfl) (by kernel_rfl) (fun _ _ _ h => h) (by kernel_rfl) ?y3x57 k6 ?r3x57
            case y3x57 => (intro W hSw; go_simp; first | done | with_reducible rfl)
            try simp only [Act.put, List.setIfInBounds_toArray, List.set_cons_zero, List.set_cons_succ]
            refine wpAnyH_takeD (l' := (upB 81 59).toArray) (i := 58) (fuel := 22) (v := ?v3x58) rfl HNS.out (by kernel_rfl) (by kernel_rfl) (by kernel_rfl) (fun _ _ _ h => h) (by kernel_rfl) ?y3x58 k6 ?r3x58
            case y3x58 => (intro W hSw; go_simp; first | done | with_reducible rfl)
            try simp only [Act.put, List.setIfInBounds_toArray, List.set_cons_zero, List.set_cons_succ]
            refine wpAnyH_takeD (l' := (upB 81 60).toArray) (i := 59) (fuel := 21) (v := ?v3x59) rfl HNS.out (by kernel_rfl) (by kernel_rfl) (by kernel_rfl) (fun _ _ _ h => h) (by kernel_rfl) ?y3x59 k6 ?r3x59
            case y3x59 => (intro W hSw; go_simp; first | done | with_reducible rfl)
            try simp only [Act.put, List.setIfInBounds_toArray, List.set_cons_zero, List.set_cons_succ]
            refine wpAnyH_takeD (l' := (upB 81 61).toArray) (i := 60) (fuel := 20) (v := ?v3x60) rfl HNS.out (by kernel_rfl) (by kernel_rfl) (by kernel_rfl) (fun _ _ _ h => h) (by kernel_rfl) ?y3x60 k6 ?r3x60
            case y3x60 => (intro W hSw; go_simp; first | done | with_reducible rfl)
            try simp only [Act.put, List.setIfInBounds_toArray, List.set_cons_zero, List.set_cons_succ]
            refine wpAnyH_takeD (l' := (upB 81 62).toArray) (i := 61) (fuel := 19) (v := ?v3x61) rfl HNS.out (by kernel_rfl) (by kernel_rfl) (by kernel_rfl) (fun _ _ _ h => h) (by kernel_rfl) ?y3x61 k6 ?r3x61
            case y3x61 => (intro W hSw; (try dsimp only at hSw); go_simp; first | done | with_reducible rfl)
            try simp only [Act.put, List.setIfInBounds_toArray, List.set_cons_zero, List.set_cons_succ]
            refine wpAnyH_takeD (l' := (upB 81 63).toArray) (i := 62) (fuel := 18) (v := ?v3x62) rfl HNS.out (by kernel_rfl) (by kernel_rfl) (by kernel_rfl) (fun _ _ _ h => h) (by kernel_rfl) ?y3x62 k6 ?r3x62
            case y3x62 => (intro W hSw; go_simp; first | done | with_reducible rfl)
            try simp only [Act.put, List.setIfInBounds_toArray, List.set_cons_zero, List.set_cons_succ]
            refine wpAnyH_takeD (l' := (upB 81 64).toArray) (i := 63) (fuel := 17) (v := ?v3x63) rfl HNS.out (by kernel_rfl) (by kernel_rfl) (by kernel_rfl) (fun _ _ _ h => h) (by kernel_rfl) ?y3x63 k6 ?r3x63
            case y3x63 => (intro W hSw; (try dsimp only at hSw); go_simp; first | done | with_reducible rfl)
            try simp only [Act.put, List.setIfInBounds_toArray, List.set_cons_zero, List.set_cons_succ]
            refine wpAnyH_takeD (l' := (upB 81 65).toArray) (i := 64) (fuel := 16) (v := ?v3x64) rfl HNS.out (by kernel_rfl) (by kernel_rfl) (by kernel_rfl) (fun _ _ _ h => h) (by kernel_rfl) ?y3x64 k6 ?r3x64
            case y3x64 => (intro W hSw; go_simp; first | done | with_reducible rfl)
            try simp only [Act.put, List.setIfInBounds_toArray, List.set_cons_zero, List.set_cons_succ]
            refine wpAnyH_takeD (l' := (upB 81 66).toArray) (i := 65) (fuel := 15) (v := ?v3x65) rfl HNS.out (by kernel_rfl) (by kernel_rfl) (by kernel_rfl) (fun _ _ _ h => h) (by kernel_rfl) ?y3x65 k6 ?r3x65
            case y3x65 => (intro W hSw; go_simp; first | done | with_reducible rfl)
            try simp only [Act.put, List.setIfInBounds_toArray, List.set_cons_zero, List.set_cons_succ]
            refine wpAnyH_takeD (l' := (upB 81 67).toArray) (i := 66) (fuel := 14) (v := ?v3x66) rfl HNS.out (by kernel_rfl) (by kernel_rfl) (by kernel_rfl) (fun _ _ _ h => h) (by kernel_rfl) ?y3x66 k6 ?r3x66
            case y3x66 => (intro W hSw; go_simp; first | done | with_reducible rfl)
            try simp only [Act.put, List.setIfInBounds_toArray, List.set_cons_zero, List.set_cons_succ]
            refine wpAnyH_takeD (l' := (upB 81 68).toArray) (i := 67) (fuel := 13) (v := ?v3x67) rfl HNS.out (by kernel_rfl) (by kernel_rfl) (by kernel_rfl) (fun _ _ _ h => h) (by kernel_rfl) ?y3x67 k6 ?r3x67
            case y3x67 => (intro W hSw; go_simp; first | done | with_reducible rfl)
            try simp only [Act.put, List.setIfInBounds_toArray, List.set_cons_zero, List.set_cons_succ]
            refine wpAnyH_takeD (l' := (upB 81 69).toArray) (i := 68) (fuel := 12) (v := ?v3x68) rfl HNS.out (by kernel_rfl) (by kernel_rfl) (by kernel_rfl) (fun _ _ _ h => h) (by kernel_rfl) ?y3x68 k6 ?r3x68
            case y3x68 => (intro W hSw; go_simp; first | done | with_reducible rfl)
            try simp only [Act.put, List.setIfInBounds_toArray, List.set_cons_zero, List.set_cons_succ]
            refine wpAnyH_takeD (l' := (upB 81 70).toArray) (i := 69) (fuel := 11) (v := ?v3x69) rfl HNS.out (by kernel_rfl) (by kernel_rfl) (by kernel_rfl) (fun _ _ _ h => h) (by kernel_rfl) ?y3x69 k6 ?r3x69
            case y3x69 => (intro W hSw; (try dsimp only at hSw); go_simp; first | done | with_reducible rfl)
            try simp only [Act.put, List.setIfInBounds_toArray, List.set_cons_zero, List.set_cons_succ]
            refine wpAnyH_takeD (l' := (upB 81 71).toArray) (i := 70) (fuel := 10) (v := ?v3x70) rfl HNS.out (by kernel_rfl) (by kernel_rfl) (by kernel_rfl) (fun _ _ _ h => h) (by kernel_rfl) ?y3x70 k6 ?r3x70
            case y3x70 => (intro W hSw; go_simp; first | done | with_reducible rfl)
            try simp only [Act.put, List.setIfInBounds_toArray, List.set_cons_zero, List.set_cons_succ]
            refine wpAnyH_takeD (l' := (upB 81 72).toArray) (i := 71) (fuel := 9) (v := ?v3x71) rfl HNS.out (by kernel_rfl) (by kernel_rfl) (by kernel_rfl) (fun _ _ _ h => h) (by kernel_rfl) ?y3x71 k6 ?r3x71
            case y3x71 => (intro W hSw; (try dsimp only at hSw); go_simp; first | done | with_reducible rfl)
            try simp only [Act.put, List.setIfInBounds_toArray, List.set_cons_zero, List.set_cons_succ]
            refine wpAnyH_takeD (l' := (upB 81 73).toArray) (i := 72) (fuel := 8) (v := ?v3x72) rfl HNS.out (by kernel_rfl) (by kernel_rfl) (by kernel_rfl) (fun _ _ _ h => h) (by kernel_rfl) ?y3x72 k6 ?r3x72
            case y3x72 => (intro W hSw; go_simp; first | done | with_reducible rfl)
            try simp only [Act.put, List.setIfInBounds_toArray, List.set_cons_zero, List.set_cons_succ]
            refine wpAnyH_takeD (l' := (upB 81 74).toArray) (i := 73) (fuel := 7) (v := ?v3x73) rfl HNS.out (by kernel_rfl) (by kernel_rfl) (by kernel_rfl) (fun _ _ _ h => h) (by kernel_rfl) ?y3x73 k6 ?r3x73
            case y3x73 => (intro W hSw; go_simp; first | done | with_reducible rfl)
            try simp only [Act.put, List.setIfInBounds_toArray, List.set_cons_zero, List.set_cons_succ]
            refine wpAnyH_takeD (l' := (upB 81 75).toArray) (i := 74) (fuel := 6) (v := ?v3x74) rfl HNS.out (by kernel_rfl) (by kernel_rfl) (by kernel_rfl) (fun _ _ _ h => h) (by kernel_rfl) ?y3x74 k6 ?r3x74
            case y3x74 => (intro W hSw; (try dsimp only at hSw); go_simp; first | done | with_reducible rfl)
            try simp only [Act.put, List.setIfInBounds_toArray, List.set_cons_zero, List.set_cons_succ]
            refine wpAnyH_takeD (l' := (upB 81 76).toArray) (i := 75) (fuel := 5) (v := ?v3x75) rfl HNS.out (by kernel_rfl) (by kernel_rfl) (by kernel_rfl) (fun _ _ _ h => h) (by kernel_rfl) ?y3x75 k6 ?r3x75
            case y3x75 => (intro W hSw; go_simp; first | done | with_reducible rfl)
            try simp only [Act.put, List.setIfInBounds_toArray, List.set_cons_zero, List.set_cons_succ]
            refine wpAnyH_takeD (l' := (upB 81 77).toArray) (i := 76) (fuel := 4) (v := ?v3x76) rfl HNS.out (by kernel_rfl) (by kernel_rfl) (by kernel_rfl) (fun _ _ _ h => h) (by kernel_rfl) ?y3x76 k6 ?r3x76
            case y3x76 => (intro W hSw; (try dsimp only at hSw); go_simp; first | done | with_reducible rfl)
            try simp only [Act.put, List.setIfInBounds_toArray, List.set_cons_zero, List.set_cons_succ]
            refine wpAnyH_takeD (l' := (upB 81 78).toArray) (i := 77) (fuel := 3) (v := ?v3x77) rfl HNS.out (by kernel_rfl) (by kernel_rfl) (by kernel_rfl) (fun _ _ _ h => h) (by kernel_rfl) ?y3x77 k6 ?r3x77
            case y3x77 => (intro W hSw; go_simp; first | done | with_reducible rfl)
            try simp only [Act.put, List.setIfInBounds_toArray, List.set_cons_zero, List.set_cons_succ]
            refine wpAnyH_oneD (l' := (upB 81 79).toArray) (i := 78) (fuel := 2) rfl (by kernel_rfl) (by kernel_rfl) (fun Kc hK => ?_)
            go_simp
            go_at_call 29
            refine (HSL.out _ hb6).mono ?_
            rintro e w7 ⟨rfl, hb7⟩
            have k7 := HKEEP.out w7 hb7
            go_wp2_with fail
            refine hK.out _ _ k7 (fun _ => ?_)
            clear hK Kc
            try simp only [Act.put, List.setIfInBounds_toArray, List.set_cons_zero, List.set_cons_succ]
            refine wpAnyH_takeD (l' := (upB 81 80).toArray) (i := 79) (fuel := 1) (v := ?v3x79) rfl HNS.out (by kernel_rfl) (by kernel_rfl) (by kernel_rfl) (fun _ _ _ h => h) (by kernel_rfl) ?y3x79 k7 ?r3x79
            case y3x79 => (intro W hSw; go_simp; first | done | with_reducible rfl)
            try simp only [Act.put, List.setIfInBounds_toArray, List.set_cons_zero, List.set_cons_succ]
            refine wpAnyH_takeD (l' := (upB 81 81).toArray) (i := 80) (fuel := 0) (v := ?v3x80) rfl HNS.out (by kernel_rfl) (by kernel_rfl) (by kernel_rfl) (fun _ _ _ h => h) (by kernel_rfl) ?y3x80 k7 ?r3x80
            case y3x80 => (intro W hSw; go_simp; first | done | with_reducible rfl)
            try simp only [Act.put, List.setIfInBounds_toArray, List.set_cons_zero, List.set_cons_succ]
            refine wpAnyH_done (by kernel_rfl) ?_ _
            go_wp2_with fail
            go_meet
            case rel => exact ⟨rfl, hb7⟩

      case rest =>
        obtain ⟨rfl, hb7⟩ := hcut
        have HN7 := hide (HN5.out.later hb7)
        have HP7 := hide (HP5.out.later hb7)
        have HS7 := hide (HS5.out.below hb7)
        have hsm : SM.length ≤ 2 ^ 63 - 1 := by
          obtain ⟨_, _, _, hz1, hz2⟩ := HS7.out.shape
          unfold maxLen at hz2
          omega
        have HY7 := hide (HY5.out.below hb7)
        have HW7 := hide (HW5.out.trans (hb7.mono HW5.out.size))
        clear hb7 HN5 HP5 HS5 HY5 HW5 HB5 HX5 HDR HCK HSL HKEEP d1 d2 d3 d4 d5 d6 i1 i2 i3 HVT hs1 hs2 yl xl f0 fl HF5
        obtain ⟨wf, hwf⟩ : ∃ wf, wf = wc := ⟨_, rfl⟩
        subst hwf
        go_wp2_with fail
        go_loopw [9] (fun kv w9 => ∃ k : Nat, k ≤ SM.length ∧ kv = .int .i64 k ∧ Below wf.heap.size wf w9) (fun kv _ => SM.length - (intOf kv).toNat)
        case atStart => exact ⟨0, by omega, rfl, Below.refl _ _⟩
        case round =>
          obtain ⟨k, hk, rfl, hbk⟩ := hrel
          have HNk := hide (HN7.out.later hbk)
          have HPk := hide (HP7.out.later hbk)
          have HSk := hide (HS7.out.below hbk)
          have HYk := hide (HY7.out.below hbk)
          have HWk := hide (HW7.out.trans (hbk.mono HW7.out.size))
          have HBk := hide hbk
          have hpl := HPL.out
          by_cases hlt2 : k < SM.length
          case neg =>
            obtain rfl : k = SM.length := by omega
            clear hbk
            go_wp2_with (first
              | (refine wpList_load_blk HNk.out Try.underlying34 rfl Try.sizeNode rfl rfl rfl ?_)
              | (refine wpList_store_blk rfl rfl rfl rfl HPk.out rfl Try.sizeNode rfl ?_; intro w8 hR8 hg8; have HR8 := hide hR8; have HA8 := hide (below_grownO HWk.out hg8 (fun k hk => by cases hk; omega) HWk.out.size); have HY8 := hide (HYk.out.offB hg8 hpl); clear hR8 hg8))
            go_roundw
            case rel => exact ⟨i + 1, Y, _, _, _, _, _, _, _, _, by omega, by go_num, HST.out.fine, HR8.out, HY8.out.rd, HA8.out⟩
            case measure => simp [intOf]; omega
          obtain ⟨s, hs⟩ : ∃ s, SM[k]? = some s := ⟨_, List.getElem?_eq_getElem hlt2⟩
          obtain ⟨b2, o2, so2, sc2, rfl, hb2, q0, q1, q2, q3, q4, q5, q6, q7, q8, hr2⟩ := HSk.out.here hs
          have hse := HSE.out s (List.mem_of_getElem? hs)
          have e1 : (s.frm != X.id) = false := by simp [hse.frm]
          have e2 : (s.to_ == X.id) = false := beq_eq_false_iff_ne.2 hse.to1
          have e3 : decide (s.to_ < 0) = false := decide_eq_false (by have := hse.to2; omega)
          have e4 : decide (X.n ≤ s.to_) = false := decide_eq_false (by have := hse.to3; omega)
          have e5 : (s.term != Y.term) = false := by simp [hse.term]
          have x0 := HPk.out.cell 0
          have x1 := HPk.out.cell 1
          have y2 := HNk.out.cell 2
          simp at x0 x1 y2
          have hk1 : (0 : Int) ≤ (k : Int) := by omega
          have hk2 : (k : Int) < (SM.length : Int) := by omega
          clear q0 q4 q5 q6 q7 q8 hr2 hs hse hbk
          go_upto_region 17 with fail
          go_quiet (fail)
          go_wp2_with fail
          go_roundw
          case rel => exact ⟨k + 1, by omega, by go_num, below_drewN HBk.out _⟩
          case measure => simp [intOf]; omega

end Go.Proofs.Ytddkjpojbflmjah
