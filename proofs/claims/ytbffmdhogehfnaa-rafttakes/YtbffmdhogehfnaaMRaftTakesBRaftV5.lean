/-
  Texts joined: RaftV5.
-/
import Derived.Test.YtbffmdhogehfnaaMRaftTakes13
/-
  The walk over the document's TakeNode: an answer to one that asks for votes. (Written by rv2.py and those that take it up.)
-/
namespace Go.Proofs.Ytbffmdhogehfnaa
open Go.RowKit Go.Maps
set_option linter.unusedVariables false

/-- An answer that counts for nothing. -/
def t2B (x : Nd) (m : Ml) : Bool := decide (x.role ≠ 1) || (decide (m.term ≠ x.term) || !m.ok)

theorem t2_true {x : Nd} {m : Ml} (h : t2B x m = true) : t2N x m = x ∧ t2M x m = [] := by
  have hc : x.role ≠ 1 ∨ m.term ≠ x.term ∨ m.ok = false := by
    unfold t2B at h
    simpa using h
  exact ⟨if_pos hc, if_pos hc⟩

theorem t2_false {x : Nd} {m : Ml} (h : t2B x m = false) : x.role = 1 ∧ t2N x m = x.elect m.frm ∧ t2M x m = if (x.elect m.frm).role = 2 then (x.elect m.frm).beats else [] := by
  have hc : ¬ (x.role ≠ 1 ∨ m.term ≠ x.term ∨ m.ok = false) := by
    unfold t2B at h
    simpa using h
  exact ⟨by by_cases q : x.role = 1; exact q; exact absurd (.inl q) hc, if_neg hc, if_neg hc⟩

theorem voted_in {x : Nd} {who : Int} (h : who ∈ x.votes) : x.voted who = x := by
  unfold Nd.voted putV
  rw [if_pos h]

theorem voted_out {x : Nd} {who : Int} (h : ¬ who ∈ x.votes) : x.voted who = { x with votes := x.votes ++ [who] } := by
  unfold Nd.voted putV
  rw [if_neg h]

theorem enters_Beats (args : Array Value) (W : World) : (callFunc 49 args).run Try.prog W = .ok (.enter 49 args) W := by kernel_rfl

theorem enters_Counted (args : Array Value) (W : World) : (callFunc 48 args).run Try.prog W = .ok (.enter 48 args) W := by kernel_rfl

set_option maxRecDepth 100000 in
set_option maxHeartbeats 16000000 in
theorem TakeNode_2 (x : Nd) (lv vv nv hv : Value) (m : Ml) (ev : Value) (w : World) (hx : RdNd w x lv vv nv hv) (he : RdG eE w ev m.ents) (hok : (takF x m).1 = 0) (hk : m.kind = 2) :
    Calls Try.prog 25 #[ndV x lv vv nv hv, mlV m ev] w (TnTo x m w) := by
  obtain ⟨hfx, hfm⟩ := takF_ok hok
  have HFX := hide hfx
  have HFM := hide hfm
  have htf : takF x m = (0, 0) := by
    have h0 := takF_z x m
    have h1 := h0 hok
    exact h1
  have HTF := hide htf
  have HTN : Hid (takN x m = x.take m) := hide (if_pos hok)
  have HTM : Hid (takM x m = x.sends m) := hide (if_pos hok)
  have hck := chkN_of hfx
  have HMF := hide (show mfB x m = true by
    have h0 := takF_mf x m
    rw [htf, hck, if_neg (by simp)] at h0
    cases hb : mfB x m
    · rw [hb] at h0; simp at h0
    · rfl)
  have HMC := hide (fun W (h : Below w.heap.size w W) => MailFine_any x lv vv nv hv m ev W (hx.below h) (he.below h))
  rw [HMF.out] at HMC
  obtain ⟨sm1, sm2, sm3, sm4⟩ := hfx.small
  have HCP := hide (fun W (h : Below w.heap.size w W) => CopyNode_any x lv vv nv hv W (hx.below h) (by omega) (by omega) (by omega) (by omega))
  have HFO := hide (fun W (h : Below w.heap.size w W) => Follower_any x lv vv nv hv W (hx.below h) (by omega))
  have HKI := hide hk
  have HCK := hide hck
  clear hok hck htf hfx hfm hk sm1 sm2 sm3 sm4
  have HX := hide hx
  have HEV := hide he
  obtain ⟨n, id, te, vo, lo, ro, co, vs, ns, hs⟩ := x
  obtain ⟨h1, h2, h3, h4⟩ := hx
  simp only at h1 h2 h3 h4
  obtain ⟨ao, cap, rfl, hc1, hc2⟩ := h1.shape
  obtain ⟨bo, cap2, rfl, hd1, hd2⟩ := h2.shape
  obtain ⟨no, cap3, rfl, _, _⟩ := h3.shape
  obtain ⟨ho, cap4, rfl, _, _⟩ := h4.shape
  obtain ⟨ki, fr, dt, mt, ma, mb, mc, es, ok⟩ := m
  simp only at he
  obtain ⟨eo, ec, rfl, he1, he2⟩ := he.shape
  obtain ⟨hP, hM, hR, hQ, hA, hS⟩ := four_at w #[.int .i64 n, .int .i64 id, .int .i64 te, .int .i64 vo, .slice ao lo.length cap, .int .i64 ro, .int .i64 co, .slice bo vs.length cap2, .slice no ns.length cap3, .slice ho hs.length cap4] #[.int .i64 ki, .int .i64 fr, .int .i64 dt, .int .i64 mt, .int .i64 ma, .int .i64 mb, .int .i64 mc, .slice eo es.length ec, .bool ok] #[.int .i64 0, .int .i64 0, .int .i64 0, .int .i64 0, .slice none 0 0, .int .i64 0, .int .i64 0, .slice none 0 0, .slice none 0 0, .slice none 0 0] #[.int .i64 0, .int .i64 0] 25 44 25 30
  have HC1 := hide (NodeFault_any ⟨n, id, te, vo, lo, ro, co, vs, ns, hs⟩ _ _ _ _ _ (HX.out.below hA))
  rw [HCK.out] at HC1
  unfold ndV ndA mlV mlA at HMC
  unfold ndV ndA at HCP HFO
  dsimp only [Nd.follow] at HFO
  dsimp only at HCP HKI HFM
  obtain ⟨p, hp0⟩ : ∃ p : Int, p = 0 := ⟨_, rfl⟩
  obtain ⟨q, hq0⟩ : ∃ q : Int, q = 0 := ⟨_, rfl⟩
  unfold ndV ndA flt at HC1
  unfold ndV ndA mlV mlA
  have HP := hide hP
  have HM := hide hM
  have HR := hide hR
  have HQ := hide hQ
  have HA := hide hA
  have HS := hide hS
  clear h1 h2 h3 h4 he hP hM hR hQ hA hS
  go_enter Try.func25, Try.ntmps25
  go_wp2_with (refine wpList_load_blk HP.out Try.underlying25 rfl Try.sizeNode rfl rfl rfl ?_)
  refine HC1.out.mono ?_
  rintro e w1 ⟨rfl, hb1⟩
  have hN := below_allocG w1 (.cells #[.int .i64 0, .int .i64 0] 30)
  have HP1 := hide ((HP.out.later hb1).later hN)
  have HM1 := hide ((HM.out.later hb1).later hN)
  have HR1 := hide ((HR.out.later hb1).later hN)
  have HQ1 := hide ((HQ.out.later hb1).later hN)
  have hAA := HA.out.trans (hb1.mono HA.out.size)
  have HA1 := hide (hAA.trans (hN.mono hAA.size))
  have HS1 := hide (show w.heap.size + 4 ≤ w1.heap.size by have := hb1.size; have := HS.out; omega)
  have HF1 := hide (Blk.new w1 30 #[.int .i64 0, .int .i64 0])
  have HL1 := hide (show w1.heap.size < (w1.alloc (.cells #[.int .i64 0, .int .i64 0] 30)).heap.size by simp)
  have hrq : w.heap.size + 1 + 1 ≠ w.heap.size + 1 + 1 + 1 := by omega
  have hqr : w.heap.size + 1 + 1 + 1 ≠ w.heap.size + 1 + 1 := by omega
  clear hb1 hN hAA HC1 HP HM HR HQ HA HS
  have kd1 : (ki == 1) = false := beq_eq_false_iff_ne.2 (by rw [HKI.out]; decide)
  have kd2 : (ki == 2) = true := by rw [HKI.out]; rfl
  clear hp0 hq0 p q
  have HMC1 := hide (HMC.out _ HA1.out)
  clear HMC
  go_upto_region 2 with fail
  generalize hWW : (w1.alloc (.cells #[.int .i64 0, .int .i64 0] 30)) = W at HP1 HM1 HR1 HQ1 HA1 HF1 HMC1 HL1 ⊢
  clear hWW
  have f0 := HF1.out.cell 0
  simp at f0
  go_upto_region 4 with (first
    | (refine wpList_load_blkW HP1.out Try.underlying25 rfl Try.sizeNode rfl rfl rfl ?_)
    | (refine wpList_load_blkW HM1.out Try.underlying44 rfl Try.sizeMail rfl rfl rfl ?_)
    | (go_at_call 52; refine HMC1.out.mono ?_; rintro e w2 ⟨rfl, hb2⟩; have HP2 := hide (HP1.out.later hb2); have HM2 := hide (HM1.out.later hb2); have HR2 := hide (HR1.out.later hb2); have HQ2 := hide (HQ1.out.later hb2); have HF2 := hide (HF1.out.later hb2); have HA2 := hide (HA1.out.trans (hb2.mono HA1.out.size)); have hz2 := hb2.size; have HL2 := hide (Nat.lt_of_lt_of_le HL1.out hb2.size); clear hb2 HP1 HM1 HR1 HQ1 HF1 HA1 HL1))
  clear f0 HMC1
  have f0 := HF2.out.cell 0
  simp at f0
  have HCP2 := hide (HCP.out _ HA2.out)
  clear HCP
  go_wp2_with (refine wpList_load_blk HP2.out Try.underlying25 rfl Try.sizeNode rfl rfl rfl ?_)
  refine HCP2.out.mono ?_
  rintro e w3 ⟨lab, lv2, vv2, nv2, hv2, rfl, hnw, hlab, hb3⟩
  obtain ⟨lo2, lc2, hs1⟩ := owns_shapeK hnw.log.1
  obtain ⟨vo2, vc2, hs2⟩ := owns_shapeK hnw.vot.1
  obtain ⟨no2, nc2, hs3⟩ := owns_shapeK hnw.nxt.1
  obtain ⟨ho2, hc2', hs4⟩ := owns_shapeK hnw.hav.1
  subst hs1 hs2 hs3 hs4
  have HD0 := hide hnw.layD
  unfold ndA at HD0
  have hNB := below_allocG w3 (.cells #[.int .i64 n, .int .i64 id, .int .i64 te, .int .i64 vo, .slice lo2 lo.length lc2, .int .i64 ro, .int .i64 co, .slice vo2 vs.length vc2, .slice no2 ns.length nc2, .slice ho2 hs.length hc2'] 25)
  have hbB := hb3.trans (hNB.mono hb3.size)
  have HP3 := hide (HP2.out.later hbB)
  have HM3 := hide (HM2.out.later hbB)
  have HR3 := hide (HR2.out.later hbB)
  have HQ3 := hide (HQ2.out.later hbB)
  have HF3 := hide (HF2.out.later hbB)
  have HA3 := hide (HA2.out.trans (hbB.mono HA2.out.size))
  have HLY := hide (show w1.heap.size < w3.heap.size from Nat.lt_of_lt_of_le HL2.out hb3.size)
  have HLB := hide (show ∀ g, g ≤ w1.heap.size → labTo lab (some w3.heap.size) 5 g = 0 from fun g hg => by
    unfold labTo
    rw [if_neg (fun q => by simp at q; have := HLY.out; omega)]
    exact hlab g (by have := HL2.out; omega))
  have HYS := hide (show w3.heap.size < (w3.alloc (.cells #[.int .i64 n, .int .i64 id, .int .i64 te, .int .i64 vo, .slice lo2 lo.length lc2, .int .i64 ro, .int .i64 co, .slice vo2 vs.length vc2, .slice no2 ns.length nc2, .slice ho2 hs.length hc2'] 25)).heap.size by simp)
  clear hnw hlab hb3 hNB hbB HP2 HM2 HR2 HQ2 HF2 HA2 HCP2 f0 HL2
  dsimp only at HD0 ⊢
  go_upto_region 7 with fail
  generalize hWB : (w3.alloc (.cells #[.int .i64 n, .int .i64 id, .int .i64 te, .int .i64 vo, .slice lo2 lo.length lc2, .int .i64 ro, .int .i64 co, .slice vo2 vs.length vc2, .slice no2 ns.length nc2, .slice ho2 hs.length hc2'] 25)) = WB at HD0 HP3 HM3 HR3 HQ3 HF3 HA3 HYS ⊢
  clear hWB
  have p1 := HP3.out.cell 1
  have p2 := HP3.out.cell 2
  have m3 := HM3.out.cell 3
  have pl := HP3.out.lt
  have ml := HM3.out.lt
  simp at p1 p2 m3
  go_upto_if 42 with fail
  generalize hTB : decide (te < mt) = TB
  have HTB := hide hTB
  clear hTB
  go_cut [8] (fun yv wc => yv = .pointer (some ⟨w3.heap.size, 0, none⟩) ∧ ∃ lab lv5 vv5 nv5 hv5, Dm wc lab w3.heap.size (Nd.hear ⟨n, id, te, vo, lo, ro, co, vs, ns, hs⟩ mt) lv5 vv5 nv5 hv5 ∧ (∀ g, g ≤ w1.heap.size → lab g = 0) ∧ Blk wc (w.heap.size) 25 #[.int .i64 n, .int .i64 id, .int .i64 te, .int .i64 vo, .slice ao lo.length cap, .int .i64 ro, .int .i64 co, .slice bo vs.length cap2, .slice no ns.length cap3, .slice ho hs.length cap4] ∧ Blk wc (w.heap.size + 1) 44 #[.int .i64 ki, .int .i64 fr, .int .i64 dt, .int .i64 mt, .int .i64 ma, .int .i64 mb, .int .i64 mc, .slice eo es.length ec, .bool ok] ∧ Blk wc (w.heap.size + 1 + 1) 25 #[.int .i64 0, .int .i64 0, .int .i64 0, .int .i64 0, .slice none 0 0, .int .i64 0, .int .i64 0, .slice none 0 0, .slice none 0 0, .slice none 0 0] ∧ Blk wc (w.heap.size + 1 + 1 + 1) 30 #[.int .i64 0, .int .i64 0] ∧ Blk wc w1.heap.size 30 #[.int .i64 0, .int .i64 0] ∧ Below w.heap.size w wc)
  case first =>
    as_aux_lemma =>
      cases TB
      case false =>
        have htm := of_decide_eq_false HTB.out
        have HHE := hide (show Nd.hear ⟨n, id, te, vo, lo, ro, co, vs, ns, hs⟩ mt = ⟨n, id, te, vo, lo, ro, co, vs, ns, hs⟩ from if_neg htm)
        clear htm
        go_wp2_with fail
        go_meet
        case rel => exact ⟨rfl, _, _, _, _, _, by rw [HHE.out]; exact HD0.out, HLB.out, HP3.out, HM3.out, HR3.out, HQ3.out, HF3.out, HA3.out⟩
      have htm := of_decide_eq_true HTB.out
      have HHE := hide (show Nd.hear ⟨n, id, te, vo, lo, ro, co, vs, ns, hs⟩ mt = ⟨n, id, mt, 0, lo, 0, co, [], [], []⟩ from if_pos htm)
      clear htm
      have HFO3 := hide (HFO.out _ HA3.out)
      have HY3 := hide HD0.out.blk
      unfold ndA at HY3
      clear HFO
      go_upto_region 9 with (first
        | (refine wpList_load_blk HP3.out Try.underlying25 rfl Try.sizeNode rfl rfl rfl ?_)
        | (go_at_call 46; refine HFO3.out.mono ?_; rintro e w4 ⟨lv6, rfl, how6, hb4⟩; obtain ⟨lo6, lc6, hs6⟩ := owns_shapeK how6; subst hs6; have HP4 := hide (HP3.out.later hb4); have HM4 := hide (HM3.out.later hb4); have HR4 := hide (HR3.out.later hb4); have HQ4 := hide (HQ3.out.later hb4); have HF4 := hide (HF3.out.later hb4); have HY4 := hide (HY3.out.later hb4); have HA4 := hide (HA3.out.trans (hb4.mono HA3.out.size)); have HO4 := hide how6; have hz4 := hb4.size; clear hb4 how6)
        | (refine wpList_store_blk rfl rfl rfl rfl HY4.out rfl Try.sizeNode rfl ?_; intro w5 hY5 hg5; have HY5 := hide hY5; have hne := HLY.out; have HP5 := hide (HP4.out.grown hg5 (by simp; have := HS1.out; omega)); have HM5 := hide (HM4.out.grown hg5 (by simp; have := HS1.out; omega)); have HR5 := hide (HR4.out.grown hg5 (by simp; have := HS1.out; omega)); have HQ5 := hide (HQ4.out.grown hg5 (by simp; have := HS1.out; omega)); have HF5 := hide (HF4.out.grown hg5 (by simp; omega)); have HA5 := hide (below_grownO HA4.out hg5 (fun k hk => by cases hk; have := HS1.out; omega) HA4.out.size); have HO5 := hide (owns_grownO HO4.out hg5 (.inr (fun q => by have := (HO4.out.lt _ q).1; have := HYS.out; omega))); clear hY5 hg5))
      clear p1 p2 m3 pl ml HP3 HM3 HR3 HQ3 HF3 HA3 HY3 HFO3 HP4 HM4 HR4 HQ4 HF4 HA4 HO4 HY4 HD0 HLB
      have m3 := HM5.out.cell 3
      have ml := HM5.out.lt
      simp at m3
      go_upto_region 11 with (first
        | (refine wpList_store_int (k := 2) rfl rfl rfl rfl HY5.out rfl Try.sizeIntR ?_; intro w6 hY6 hg6; have HY6 := hide hY6; have HP6 := hide (HP5.out.grown hg6 (by simp; have := HS1.out; omega)); have HM6 := hide (HM5.out.grown hg6 (by simp; have := HS1.out; omega)); have HR6 := hide (HR5.out.grown hg6 (by simp; have := HS1.out; omega)); have HQ6 := hide (HQ5.out.grown hg6 (by simp; have := HS1.out; omega)); have HF6 := hide (HF5.out.grown hg6 (by simp; omega)); have HA6 := hide (below_grownO HA5.out hg6 (fun k hk => by cases hk; have := HS1.out; omega) HA5.out.size); have HO6 := hide (owns_grownO HO5.out hg6 (.inr (fun q => by have := (HO5.out.lt _ q).1; have := HYS.out; omega))); clear hY6 hg6)
        | (refine wpList_store_int (k := 3) rfl rfl rfl rfl HY6.out rfl Try.sizeIntR ?_; intro w7 hY7 hg7; have HY7 := hide hY7; have HP7 := hide (HP6.out.grown hg7 (by simp; have := HS1.out; omega)); have HM7 := hide (HM6.out.grown hg7 (by simp; have := HS1.out; omega)); have HR7 := hide (HR6.out.grown hg7 (by simp; have := HS1.out; omega)); have HQ7 := hide (HQ6.out.grown hg7 (by simp; have := HS1.out; omega)); have HF7 := hide (HF6.out.grown hg7 (by simp; omega)); have HA7 := hide (below_grownO HA6.out hg7 (fun k hk => by cases hk; have := HS1.out; omega) HA6.out.size); have HO7 := hide (owns_grownO HO6.out hg7 (.inr (fun q => by have := (HO6.out.lt _ q).1; have := HYS.out; omega))); clear hY7 hg7))
      go_meet
      case rel =>
        refine ⟨rfl, _, _, _, _, _, by rw [HHE.out]; exact Dm.ofLog (base := WB.heap.size) HY7.out HO7.out HYS.out rfl rfl rfl, fun g hg => ?_, HP7.out, HM7.out, HR7.out, HQ7.out, HF7.out, HA7.out⟩
        have hne := HLY.out
        have hys := HYS.out
        show (if _ then _ else _) = _
        rw [if_neg (fun q => by have := (HO7.out.lt g q).1; omega), if_neg (by omega)]
  case rest =>
    as_aux_lemma =>
      obtain ⟨wk, hwk⟩ : ∃ wk, wk = wc := ⟨_, rfl⟩
      subst hwk
      obtain ⟨rfl, lab5, lv5, vv5, nv5, hv5, hdm, hlb5, hP5, hM5, hR5, hQ5, hF5, hA5⟩ := hcut
      have HTK := hide (show Nd.take ⟨n, id, te, vo, lo, ro, co, vs, ns, hs⟩ ⟨ki, fr, dt, mt, ma, mb, mc, es, ok⟩ = t2N (Nd.hear ⟨n, id, te, vo, lo, ro, co, vs, ns, hs⟩ mt) ⟨ki, fr, dt, mt, ma, mb, mc, es, ok⟩ by unfold Nd.take; rw [if_neg (fun q => absurd (show (2 : Int) = 1 from HKI.out.symm.trans q) (by decide)), if_pos HKI.out])
      have HSD := hide (show Nd.sends ⟨n, id, te, vo, lo, ro, co, vs, ns, hs⟩ ⟨ki, fr, dt, mt, ma, mb, mc, es, ok⟩ = t2M (Nd.hear ⟨n, id, te, vo, lo, ro, co, vs, ns, hs⟩ mt) ⟨ki, fr, dt, mt, ma, mb, mc, es, ok⟩ by unfold Nd.sends; rw [if_neg (fun q => absurd (show (2 : Int) = 1 from HKI.out.symm.trans q) (by decide)), if_pos HKI.out])
      have HEF := hide (hear_fix ⟨n, id, te, vo, lo, ro, co, vs, ns, hs⟩ mt)
      have HFH := hide (HFX.out.hear HFM.out.t2)
      have HTT := hide (hear_term (x := ⟨n, id, te, vo, lo, ro, co, vs, ns, hs⟩) (t := mt)).1
      generalize hH : Nd.hear ⟨n, id, te, vo, lo, ro, co, vs, ns, hs⟩ mt = H at hdm HTK HSD HEF HFH HTT
      dsimp only at HEF HFM
      have HHH := hide hH
      obtain ⟨lo5, lc5, hs1⟩ := owns_shapeK hdm.log.1
      obtain ⟨vo5, vc5, hs2⟩ := owns_shapeK hdm.vot.1
      obtain ⟨no5, nc5, hs3⟩ := owns_shapeK hdm.nxt.1
      obtain ⟨ho5, hc5, hs4⟩ := owns_shapeK hdm.hav.1
      subst hs1 hs2 hs3 hs4
      clear hH HD0 HP3 HM3 HR3 HQ3 HF3 HA3 HYS p1 p2 m3 pl ml HFO HLB HTB
      have hN := below_allocG wk (.cells #[.int .i64 0, .int .i64 id, .int .i64 fr, .int .i64 H.term, .int .i64 0, .int .i64 0, .int .i64 0, .slice none 0 0, .bool false] 44)
      have HD6 := hide (hdm.below hN)
      have HM6 := hide (hM5.later hN)
      have HR6 := hide (hR5.later hN)
      have HQ6 := hide (hQ5.later hN)
      have HF6 := hide (hF5.later hN)
      have HA6 := hide (hA5.trans (hN.mono hA5.size))
      have HK6 := hide (Blk.new wk 44 #[.int .i64 0, .int .i64 id, .int .i64 fr, .int .i64 H.term, .int .i64 0, .int .i64 0, .int .i64 0, .slice none 0 0, .bool false])
      have HLK := hide (show lab5 wk.heap.size = 0 from hdm.ok _ (Nat.le_refl _))
      have HLB5 := hide hlb5
      have HYK := hide (show w3.heap.size < wk.heap.size from hdm.blk.lt)
      have hY5 := hdm.blk
      unfold ndA at hY5
      have y2 := hY5.cell 2
      have yl := hY5.lt
      have p1 := hP5.cell 1
      have pl := hP5.lt
      have m0 := hM5.cell 0
      have m1 := hM5.cell 1
      have ml := hM5.lt
      simp at y2 p1 m0 m1
      clear hdm hlb5 hP5 hM5 hR5 hQ5 hF5 hA5 hN hY5
      go_upto_region 12 with fail
      generalize hW6 : wk.alloc (.cells #[.int .i64 0, .int .i64 id, .int .i64 fr, .int .i64 H.term, .int .i64 0, .int .i64 0, .int .i64 0, .slice none 0 0, .bool false] 44) = W6 at HD6 HM6 HR6 HQ6 HF6 HA6 HK6 ⊢
      clear hW6 y2 yl p1 pl m0 m1 ml
      have m0 := HM6.out.cell 0
      have ml := HM6.out.lt
      simp at m0
      have hi1 := HS1.out
      have hi2 := HLY.out
      have hi3 := HYK.out
      go_upto_region 21 with fail
      clear m0 ml kd1 kd2
      have hY6 := HD6.out.blk
      unfold ndA at hY6
      have y2 := hY6.cell 2
      have y5 := hY6.cell 5
      have yl := hY6.lt
      have m3 := HM6.out.cell 3
      have m8 := HM6.out.cell 8
      have ml := HM6.out.lt
      simp at y2 y5 m3 m8
      clear hY6
      go_cut [132] (fun g wc => g = .bool (t2B H ⟨ki, fr, dt, mt, ma, mb, mc, es, ok⟩) ∧ W6 = wc)
      case first =>
        as_aux_lemma =>
          by_cases g1 : H.role = 1
          case neg =>
            have v1 : (H.role != 1) = true := by simp [g1]
            have HG := hide (show t2B H ⟨ki, fr, dt, mt, ma, mb, mc, es, ok⟩ = true by unfold t2B; simp [g1])
            clear g1
            focus
              go_wp2_with fail
              go_meet
              case rel => exact ⟨by rw [HG.out], rfl⟩
          have v1 : (H.role != 1) = false := by simp [g1]
          by_cases g2 : mt = H.term
          case neg =>
            have v2 : (mt != H.term) = true := by simp [g2]
            have HG := hide (show t2B H ⟨ki, fr, dt, mt, ma, mb, mc, es, ok⟩ = true by unfold t2B; simp [g2])
            clear g1 g2
            focus
              go_wp2_with fail
              go_meet
              case rel => exact ⟨by rw [HG.out], rfl⟩
          have v2 : (mt != H.term) = false := by simp [g2]
          have HG := hide (show t2B H ⟨ki, fr, dt, mt, ma, mb, mc, es, ok⟩ = !ok by unfold t2B; simp [g1, g2])
          clear g1 g2
          focus
            go_wp2_with fail
            go_meet
            case rel => exact ⟨by rw [HG.out], rfl⟩
      case rest =>
        as_aux_lemma =>
          obtain ⟨rfl, rfl⟩ := hcut
          clear y2 y5 yl m3 m8 ml
          have HTN1 : Hid (takN ⟨n, id, te, vo, lo, ro, co, vs, ns, hs⟩ ⟨ki, fr, dt, mt, ma, mb, mc, es, ok⟩ = t2N H ⟨ki, fr, dt, mt, ma, mb, mc, es, ok⟩) := hide (HTN.out.trans HTK.out)
          have HTM1 : Hid (takM ⟨n, id, te, vo, lo, ro, co, vs, ns, hs⟩ ⟨ki, fr, dt, mt, ma, mb, mc, es, ok⟩ = t2M H ⟨ki, fr, dt, mt, ma, mb, mc, es, ok⟩) := hide (HTM.out.trans HSD.out)
          clear HTN HTM HTK HSD
          go_upto_if 132 with fail
          generalize hG : t2B H ⟨ki, fr, dt, mt, ma, mb, mc, es, ok⟩ = G
          cases G
          case true =>
            have HN_ := hide (HTN1.out.trans (t2_true hG).1)
            have HM_ := hide (HTM1.out.trans (t2_true hG).2)
            clear hG HTN1 HTM1
            go_upto_region 22 with fail
            as_aux_lemma =>
              refine wp_ret5 (dN := _) (dF := _) (v3 := .slice none 0 0) HD6.out.blk HF6.out HR6.out HQ6.out (by have := HS1.out; have := HLY.out; have := HYK.out; omega) (by have := HS1.out; have := HLY.out; have := HYK.out; omega) (by have := HS1.out; have := HLY.out; have := HYK.out; omega) (by have := HS1.out; have := HLY.out; have := HYK.out; omega) (by have := HS1.out; have := HLY.out; have := HYK.out; omega) (by kernel_rfl) (by kernel_rfl) rfl (by kernel_rfl) (by kernel_rfl) (by kernel_rfl) (by kernel_rfl) (by kernel_rfl) (by kernel_rfl) (by kernel_rfl) (by kernel_rfl) ⟨⟨rfl, rfl⟩, rfl, rfl, rfl⟩ ⟨⟨rfl, rfl⟩, rfl, rfl, rfl⟩ (fun _ _ _ _ h => h) (fun _ _ _ _ h => h) (by kernel_rfl) (by kernel_rfl) (by kernel_rfl) (by kernel_rfl) (by kernel_rfl) (by kernel_rfl) (by kernel_rfl) (by kernel_rfl) (by kernel_rfl) Try.underlying25 rfl Try.sizeNode Try.underlying30 rfl Try.sizeFaultR rfl rfl rfl rfl ?_
              intro wm w9 hgm hg9 hR9 hQ9
              have HR9 := hide hR9
              have HQ9 := hide hQ9
              have HD9 := hide (HD6.out.ret hgm hg9 (HLB5.out _ (by have := HS1.out; omega)) (HLB5.out _ (by have := HS1.out; omega)))
              have HA9 := hide (below_ret HA6.out hgm hg9 (by omega) (by omega) HA6.out.size)
              clear hR9 hQ9 hgm hg9
              unfold Exit.then
              rename_i hk9
              refine hk9 _ _ (wp_ret ?_)
              clear hk9
              refine bodyPost_ret (results3_ctc (v2 := .slice none 0 0) Try.results25 (by kernel_rfl) (by kernel_rfl) (by kernel_rfl) (run_loadVar_blk HR9.out Try.underlying25 rfl Try.sizeNode) (run_loadVar_blk HQ9.out Try.underlying30 rfl Try.sizeFaultR)) rfl ?_
              exact TnTo.fin HN_.out HM_.out HTF.out HD9.out.rd (RdM.nilW w9) HA9.out
          case false =>
            obtain ⟨hr1, hE1, hE2⟩ := t2_false hG
            have HR1 := hide hr1
            have HN_ := hide (HTN1.out.trans hE1)
            have HM_ := hide (HTM1.out.trans hE2)
            dsimp only at HN_ HM_
            clear hG HTN1 HTM1 hr1 hE1 hE2
            have HHAS := hide (Has_any (.slice vo5 H.votes.length vc5) H.votes fr W6 HD6.out.rd.votes)
            have hY6 := HD6.out.blk
            unfold ndA at hY6
            have HBB := hide hY6
            have y7 := hY6.cell 7
            have yl := hY6.lt
            have m1 := HM6.out.cell 1
            have ml := HM6.out.lt
            simp at y7 m1
            clear hY6
            go_upto_if 140 with (go_at_call 44; refine HHAS.out.mono ?_; rintro e w7 ⟨rfl, hw7⟩; rw [hw7]; clear hw7 w7)
            generalize hin : decide (fr ∈ H.votes) = IN
            have HIN := hide hin
            clear hin HHAS
            go_cut [8] (fun yv wx => yv = .pointer (some ⟨w3.heap.size, 0, none⟩) ∧ ∃ lab7 lv7 vv7 nv7 hv7, Dm wx lab7 w3.heap.size (H.voted fr) lv7 vv7 nv7 hv7 ∧ (∀ g, g ≤ w1.heap.size → lab7 g = 0) ∧ Blk wx (w.heap.size + 1) 44 #[.int .i64 ki, .int .i64 fr, .int .i64 dt, .int .i64 mt, .int .i64 ma, .int .i64 mb, .int .i64 mc, .slice eo es.length ec, .bool ok] ∧ Blk wx (w.heap.size + 1 + 1) 25 #[.int .i64 0, .int .i64 0, .int .i64 0, .int .i64 0, .slice none 0 0, .int .i64 0, .int .i64 0, .slice none 0 0, .slice none 0 0, .slice none 0 0] ∧ Blk wx (w.heap.size + 1 + 1 + 1) 30 #[.int .i64 0, .int .i64 0] ∧ Blk wx w1.heap.size 30 #[.int .i64 0, .int .i64 0] ∧ Below w.heap.size w wx)
            case first =>
              as_aux_lemma =>
                cases IN
                case true =>
                  have HVO := hide (voted_in (x := H) (of_decide_eq_true HIN.out))
                  focus
                    go_wp2_with fail
                    go_meet
                    case rel => exact ⟨rfl, _, _, _, _, _, by rw [HVO.out]; exact HD6.out, HLB5.out, HM6.out, HR6.out, HQ6.out, HF6.out, HA6.out⟩
                have HVO := hide (voted_out (x := H) (of_decide_eq_false HIN.out))
                focus
                  have hNB := below_allocG W6 (.cells #[.int .i64 fr] 3)
                  have HON := hide (HD6.out.vot.1.alloc (.cells #[.int .i64 fr] 3))
                  have HRO := hide (RdG.oneI W6 fr)
                  have HBA := hide (HBB.out.later hNB)
                  have HOF := hide (owns_off HON.out HBA.out (by decide))
                  have hvl : H.votes.length ≤ 1000 := by have := HFH.out.small.2.1; omega
                  have HL2 := hide (show H.votes.length + [fr].length ≤ 1000000000 by simp; omega)
                  have hoff := fun (B : Nat) (t : TypeId) (xs : Array Value) (h : Blk (W6.alloc (.cells #[.int .i64 fr] 3)) B t xs) (ht : 3 ≠ t) => owns_off HON.out h ht
                  have HMo := hide (hoff _ _ _ (HM6.out.later hNB) (by decide))
                  have HRo := hide (hoff _ _ _ (HR6.out.later hNB) (by decide))
                  have HQo := hide (hoff _ _ _ (HQ6.out.later hNB) (by decide))
                  have HFo := hide (hoff _ _ _ (HF6.out.later hNB) (by decide))
                  have HM7 := hide (HM6.out.later hNB)
                  have HR7 := hide (HR6.out.later hNB)
                  have HQ7 := hide (HQ6.out.later hNB)
                  have HF7 := hide (HF6.out.later hNB)
                  have HA7 := hide (HA6.out.trans (hNB.mono HA6.out.size))
                  clear hoff hvl
                  go_upto_region 24 with fail
                  go_wp2_with (first
                    | (at_builtin; go_must (refine wpList_append_rdAt (E := iE) (cs := H.votes) (news := [fr]) HON.out HRO.out Try.underlying23 infoIntR rfl rfl rfl rfl rfl HL2.out (by decide) (Nat.zero_le _) ?_); intro v5 w5 ho5 hg5 hat5; obtain ⟨ao5, cap5, hv5⟩ := owns_shapeK ho5; subst hv5; have HB5 := hide (HBA.out.grown hg5 (fun q => HOF.out q.symm)); have HO5 := hide ho5; have HG5 := hide hg5; have HAT := hide hat5; clear ho5 hg5 hat5)
                    | (refine wpList_store_slice (k := 7) rfl rfl rfl rfl HB5.out rfl Try.sizeIntsR ?_; intro w6 hB6 hg6; have HB6 := hide hB6; have HG6 := hide hg6; clear hB6 hg6))
                  obtain ⟨hN6, hC6⟩ := HD6.out.appVotes (l := H.votes ++ [fr]) hNB (by simpa using HO5.out) HG5.out HAT.out HG6.out HB6.out
                  have hlab7 : ∀ g, g ≤ w1.heap.size → labTo lab5 (Value.slice ao5 (H.votes.length + [fr].length) cap5).ownBlock 2 g = 0 := fun g hg => (hC6.labs g (by have := HLY.out; have := HD6.out.blk.lt; omega)).trans (HLB5.out g hg)
                  have HMx := hide ((HM7.out.grown HG5.out (fun q => HMo.out q.symm)).grown HG6.out (by simp; have := HS1.out; have := HLY.out; omega))
                  have HRx := hide ((HR7.out.grown HG5.out (fun q => HRo.out q.symm)).grown HG6.out (by simp; have := HS1.out; have := HLY.out; omega))
                  have HQx := hide ((HQ7.out.grown HG5.out (fun q => HQo.out q.symm)).grown HG6.out (by simp; have := HS1.out; have := HLY.out; omega))
                  have HFx := hide ((HF7.out.grown HG5.out (fun q => HFo.out q.symm)).grown HG6.out (by simp; have := HS1.out; have := HLY.out; omega))
                  have hb6 := HA6.out.trans (Below.ofChg (C := w.heap.size) hC6 (fun k hk q => by have h0 := HLB5.out k (by have := HS1.out; omega); rw [h0] at q; omega) HA6.out.size)
                  have HB7 := hide hb6
                  have HND := hide hN6
                  have HLL := hide hlab7
                  clear hN6 hC6 hlab7 hb6
                  go_meet
                  case rel => exact ⟨rfl, _, _, _, _, _, by rw [HVO.out]; exact HND.out, HLL.out, HMx.out, HRx.out, HQx.out, HFx.out, HB7.out⟩
            case rest =>
              as_aux_lemma =>
                obtain ⟨rfl, lab7, lv7, vv7, nv7, hv7, hd7, hlb7, hM7, hR7, hQ7, hF7, hA7⟩ := hcut
                clear y7 yl m1 ml HBB HIN HD6 HM6 HR6 HQ6 HF6 HA6 HK6
                obtain ⟨X, hX⟩ : ∃ X, X = H.voted fr := ⟨_, rfl⟩
                have HEL : Hid (H.elect fr = if mostB X.votes.length X.n = true then X.lead else X) := hide (by rw [hX]; rfl)
                have HXR := hide (show X.role = 1 by rw [hX]; exact HR1.out)
                have HXN := hide (show 1 ≤ X.n ∧ X.n ≤ 7 by rw [hX]; exact ⟨HFH.out.n1, HFH.out.n7⟩)
                have HXI := hide (show 0 ≤ X.id ∧ X.id < X.n by rw [hX]; exact ⟨HFH.out.id0, HFH.out.idn⟩)
                have HXL := hide (show X.log.length ≤ 1000 by rw [hX]; have := HFH.out.loglen; show H.log.length ≤ 1000; omega)
                have HXC := hide (show 0 ≤ X.com ∧ X.com ≤ X.log.length by rw [hX]; exact ⟨HFH.out.c0, HFH.out.cl⟩)
                have HFE := hide (HFH.out.elect HR1.out HFM.out.f0 (by have := HFM.out.fn; rw [HEF.out.1]; exact this))
                rw [← hX] at hd7
                clear hX
                obtain ⟨lo7, lc7, hs1⟩ := owns_shapeK hd7.log.1
                obtain ⟨vo7, vc7, hs2⟩ := owns_shapeK hd7.vot.1
                obtain ⟨no7, nc7, hs3⟩ := owns_shapeK hd7.nxt.1
                obtain ⟨ho7, hc7, hs4⟩ := owns_shapeK hd7.hav.1
                subst hs1 hs2 hs3 hs4
                have HD7 := hide hd7
                have HLB7 := hide hlb7
                have HM7 := hide hM7
                have HR7 := hide hR7
                have HQ7 := hide hQ7
                have HF7 := hide hF7
                have HA7 := hide hA7
                have hY7 := hd7.blk
                unfold ndA at hY7
                have y0 := hY7.cell 0
                have y7 := hY7.cell 7
                have yl := hY7.lt
                simp at y0 y7
                have HBB := hide hY7
                clear hY7 hd7 hlb7 hM7 hR7 hQ7 hF7 hA7 HLB5
                obtain ⟨wx, hwx⟩ : ∃ wx, wx = wc := ⟨_, rfl⟩
                have HMJ := hide (Majority_any X.votes.length X.n wx (by have := HXN.out; omega) (by have := HXN.out; omega))
                subst hwx
                go_upto_if 153 with (go_at_call 45; refine HMJ.out.mono ?_; rintro e w8 ⟨rfl, hw8⟩; rw [hw8]; clear hw8 w8)
                generalize hMB : mostB X.votes.length X.n = MB at HEL ⊢
                clear hMB HMJ y0 y7 yl
                cases MB
                case false =>
                  have HE0 : Hid (H.elect fr = X) := hide (HEL.out.trans (if_neg (by simp)))
                  have HN_ := hide (HN_.out.trans HE0.out)
                  have HM_ : Hid (takM ⟨n, id, te, vo, lo, ro, co, vs, ns, hs⟩ ⟨ki, fr, dt, mt, ma, mb, mc, es, ok⟩ = []) := hide (HM_.out.trans (by rw [HE0.out]; exact if_neg (by rw [HXR.out]; decide)))
                  have HLB5 := HLB7
                  go_upto_region 28 with fail
                  as_aux_lemma =>
                    refine wp_ret5 (dN := _) (dF := _) (v3 := .slice none 0 0) HD7.out.blk HF7.out HR7.out HQ7.out (by have := HS1.out; have := HLY.out; have := HYK.out; omega) (by have := HS1.out; have := HLY.out; have := HYK.out; omega) (by have := HS1.out; have := HLY.out; have := HYK.out; omega) (by have := HS1.out; have := HLY.out; have := HYK.out; omega) (by have := HS1.out; have := HLY.out; have := HYK.out; omega) (by kernel_rfl) (by kernel_rfl) rfl (by kernel_rfl) (by kernel_rfl) (by kernel_rfl) (by kernel_rfl) (by kernel_rfl) (by kernel_rfl) (by kernel_rfl) (by kernel_rfl) ⟨⟨rfl, rfl⟩, rfl, rfl, rfl⟩ ⟨⟨rfl, rfl⟩, rfl, rfl, rfl⟩ (fun _ _ _ _ h => h) (fun _ _ _ _ h => h) (by kernel_rfl) (by kernel_rfl) (by kernel_rfl) (by kernel_rfl) (by kernel_rfl) (by kernel_rfl) (by kernel_rfl) (by kernel_rfl) (by kernel_rfl) Try.underlying25 rfl Try.sizeNode Try.underlying30 rfl Try.sizeFaultR rfl rfl rfl rfl ?_
                    intro wm w9 hgm hg9 hR9 hQ9
                    have HR9 := hide hR9
                    have HQ9 := hide hQ9
                    have HD9 := hide (HD7.out.ret hgm hg9 (HLB5.out _ (by have := HS1.out; omega)) (HLB5.out _ (by have := HS1.out; omega)))
                    have HA9 := hide (below_ret HA7.out hgm hg9 (by omega) (by omega) HA7.out.size)
                    clear hR9 hQ9 hgm hg9
                    unfold Exit.then
                    rename_i hk9
                    refine hk9 _ _ (wp_ret ?_)
                    clear hk9
                    refine bodyPost_ret (results3_ctc (v2 := .slice none 0 0) Try.results25 (by kernel_rfl) (by kernel_rfl) (by kernel_rfl) (run_loadVar_blk HR9.out Try.underlying25 rfl Try.sizeNode) (run_loadVar_blk HQ9.out Try.underlying30 rfl Try.sizeFaultR)) rfl ?_
                    exact TnTo.fin HN_.out HM_.out HTF.out HD9.out.rd (RdM.nilW w9) HA9.out
                case true =>
                  have HE1 : Hid (H.elect fr = X.lead) := hide (HEL.out.trans (if_pos rfl))
                  have HN_ := hide (HN_.out.trans HE1.out)
                  have HM_ := hide (show takM ⟨n, id, te, vo, lo, ro, co, vs, ns, hs⟩ ⟨ki, fr, dt, mt, ma, mb, mc, es, ok⟩ = X.lead.beats from HM_.out.trans (by rw [HE1.out]; exact if_pos rfl))
                  have hfl : FineN X.lead := by have := HFE.out; rw [HE1.out] at this; exact this
                  have HKL := hide (lead_known hfl rfl)
                  have HLDR := hide (Leader_any X (.slice lo7 X.log.length lc7) (.slice vo7 X.votes.length vc7) (.slice no7 X.next.length nc7) (.slice ho7 X.hav.length hc7) wx HD7.out.rd HXN.out.1 HXN.out.2 HXI.out.1 HXI.out.2 HXL.out HXC.out.1 HXC.out.2)
                  obtain ⟨Y, hY⟩ : ∃ Y, Y = X.lead := ⟨_, rfl⟩
                  have HYL := hide (show Y.log = X.log by rw [hY]; rfl)
                  have HYN := hide (show Y.n = X.n by rw [hY]; rfl)
                  have HYV := hide (show Y.votes = [] by rw [hY]; rfl)
                  rw [← hY] at HN_ HM_ HKL HLDR
                  unfold ndV ndA at HLDR
                  clear hY HE1 HEL hfl
                  go_upto_region 26 with fail
                  go_wp2_with (refine wpList_load_blk HBB.out Try.underlying25 rfl Try.sizeNode rfl rfl rfl ?_)
                  refine HLDR.out.mono ?_
                  rintro e w8 ⟨lv8, nv8, hv8, rfl, han8, hb8⟩
                  obtain ⟨lo8, lc8, hs1, _, _⟩ := han8.rd.log.shape
                  obtain ⟨no8, nc8, hs3, _, _⟩ := han8.rd.next.shape
                  obtain ⟨ho8, hc8, hs4, _, _⟩ := han8.rd.hav.shape
                  subst hs1 hs3 hs4
                  have HB8 := hide (HBB.out.later hb8)
                  have HN8 := hide han8
                  have HM8 := hide (HM7.out.later hb8)
                  have HR8 := hide (HR7.out.later hb8)
                  have HQ8 := hide (HQ7.out.later hb8)
                  have HF8 := hide (HF7.out.later hb8)
                  have HA8 := hide (HA7.out.trans (hb8.mono HA7.out.size))
                  have hz8 := hb8.size
                  clear han8 hb8
                  go_upto_region 27 with (refine wpList_store_blk rfl rfl rfl rfl HB8.out rfl Try.sizeNode rfl ?_; intro w9 hB9 hg9; have HB9 := hide hB9; have HN9 := hide (HN8.out.offB hg9 HBB.out.lt); have HM9 := hide (HM8.out.grown hg9 (by simp; have := HS1.out; have := HLY.out; have := HYK.out; omega)); have HR9 := hide (HR8.out.grown hg9 (by simp; have := HS1.out; have := HLY.out; have := HYK.out; omega)); have HQ9 := hide (HQ8.out.grown hg9 (by simp; have := HS1.out; have := HLY.out; have := HYK.out; omega)); have HF9 := hide (HF8.out.grown hg9 (by simp; have := HS1.out; have := HLY.out; have := HYK.out; omega)); have HA9 := hide (below_grownO HA8.out hg9 (fun k hk => by cases hk; have := HS1.out; have := HLY.out; have := HYK.out; omega) HA8.out.size); clear hB9 hg9)
                  have HBE := hide (Beats_any Y (.slice lo8 Y.log.length lc8) (.slice none 0 0) (.slice no8 Y.next.length nc8) (.slice ho8 Y.hav.length hc8) w9.drew (HN9.out.rd.below (Below.drew (Below.refl _ _))) (by rw [HYN.out]; have := HXN.out; omega) (by rw [HYN.out]; exact HXN.out.2) (by rw [HYL.out]; exact HXL.out) HKL.out.1 HKL.out.2.2.1)
                  have HYX := hide HBB.out.lt
                  clear HBB HB8 HN8 HLDR
                  as_aux_lemma =>
                    refine wp_ret7c (f := 49) (dN := _) (dF := _) (Rel := fun u W => OwM W w9.drew.heap.size u Y.beats ∧ Below w9.drew.heap.size w9.drew W) HB9.out HF9.out HR9.out HQ9.out (by have := HS1.out; have := HLY.out; have := HYK.out; omega) (by have := HS1.out; have := HLY.out; have := HYK.out; omega) (by have := HS1.out; have := HLY.out; have := HYK.out; omega) (by have := HS1.out; have := HLY.out; have := HYK.out; omega) (by have := HS1.out; have := HLY.out; have := HYK.out; omega) (HBE.out.mono (by rintro e w' ⟨v', rfl, h1, h2⟩; exact ⟨v', rfl, h1, h2⟩)) (fun u W h => h.2) enters_Beats (by kernel_rfl) (by kernel_rfl) rfl ⟨by kernel_rfl, by kernel_rfl, by kernel_rfl⟩ ⟨by kernel_rfl, by kernel_rfl, by kernel_rfl⟩ (by kernel_rfl) (by kernel_rfl) (by kernel_rfl) (by kernel_rfl) (by kernel_rfl) ⟨⟨rfl, rfl, rfl⟩, rfl, rfl, rfl, rfl⟩ ⟨⟨rfl, rfl, rfl⟩, rfl, rfl, rfl, rfl⟩ (fun _ _ _ _ h => h) (fun _ _ _ _ h => h) (fun _ _ _ _ h => h) (by kernel_rfl) (by kernel_rfl) (by kernel_rfl) (by kernel_rfl) (by kernel_rfl) (by kernel_rfl) (by kernel_rfl) (by kernel_rfl) ⟨⟨rfl, rfl⟩, ⟨by decide, by decide⟩, ⟨by decide, by decide⟩, by decide, by decide⟩ (by kernel_rfl) (by kernel_rfl) (by kernel_rfl) Try.underlying25 rfl Try.sizeNode Try.underlying30 rfl Try.sizeFaultR rfl rfl rfl rfl ⟨rfl, rfl, rfl⟩ (by kernel_rfl) ?_
                    rintro u W wm w10 a9 hka hkv ⟨hu, hub⟩ hbW hgm hg10 hR9 hQ9
                    have hzd : w9.heap.size ≤ w9.drew.heap.size := (Below.drew (Below.refl w9.heap.size w9)).size
                    have hrl := HR9.out.lt
                    have hql := HQ9.out.lt
                    have HN10 := hide (((HN9.out.below hbW).offB hgm (by have := HS1.out; have := HLY.out; have := HYX.out; omega)).offB hg10 (by have := HS1.out; have := HLY.out; have := HYX.out; omega)).rd
                    have HU10 := hide ((hu.offB hgm (by omega)).offB hg10 (by omega)).rd
                    have HA10 := hide (below_ret (HA9.out.trans (hbW.mono HA9.out.size)) hgm hg10 (by omega) (by omega) (Nat.le_trans HA9.out.size hbW.size))
                    have HR9 := hide hR9
                    have HQ9 := hide hQ9
                    clear hR9 hQ9 hgm hg10 hu hub
                    unfold Exit.then
                    rename_i hk9
                    refine hk9 _ _ (wp_ret ?_)
                    clear hk9
                    refine bodyPost_ret (results3_ctc (v2 := u) Try.results25 ((hka.tmps _ (by kernel_rfl)).trans (by kernel_rfl)) hkv ((hka.tmps _ (by kernel_rfl)).trans (by kernel_rfl)) (run_loadVar_blk HR9.out Try.underlying25 rfl Try.sizeNode) (run_loadVar_blk HQ9.out Try.underlying30 rfl Try.sizeFaultR)) (hka.defers.trans rfl) ?_
                    exact TnTo.fin HN_.out HM_.out HTF.out HN10.out HU10.out HA10.out

end Go.Proofs.Ytbffmdhogehfnaa
