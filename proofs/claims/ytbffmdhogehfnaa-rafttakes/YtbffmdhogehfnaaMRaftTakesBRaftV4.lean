/-
  Texts joined: RaftV4.
-/
import Derived.Test.YtbffmdhogehfnaaMRaftTakes13
/-
  The walk over the document's TakeNode: one that asks for a vote. (Written by rv2.py and those that take it up.)
-/
namespace Go.Proofs.Ytbffmdhogehfnaa
open Go.RowKit Go.Maps
set_option linter.unusedVariables false

set_option maxRecDepth 100000 in
set_option maxHeartbeats 16000000 in
theorem TakeNode_1 (x : Nd) (lv vv nv hv : Value) (m : Ml) (ev : Value) (w : World) (hx : RdNd w x lv vv nv hv) (he : RdG eE w ev m.ents) (hok : (takF x m).1 = 0) (hk : m.kind = 1) :
    Calls Try.prog 25 #[ndV x lv vv nv hv, mlV m ev] w (TnTo x m w) := by
  obtain ⟨hfx, hfm⟩ := takF_ok hok
  have HFX := hide hfx
  have HFM := hide hfm
  have htf : takF x m = (0, 0) := by
    have h0 := takF_z x m
    have h1 := h0 hok
    exact h1
  have HTF := hide htf
  have HTN : Hid (takN x m = x.take m) := hide (if_pos hok)
  have HTM : Hid (takM x m = x.sends m) := hide (if_pos hok)
  have hck := chkN_of hfx
  have HMF := hide (show mfB x m = true by
    have h0 := takF_mf x m
    rw [htf, hck, if_neg (by simp)] at h0
    cases hb : mfB x m
    · rw [hb] at h0; simp at h0
    · rfl)
  have HMC := hide (fun W (h : Below w.heap.size w W) => MailFine_any x lv vv nv hv m ev W (hx.below h) (he.below h))
  rw [HMF.out] at HMC
  obtain ⟨sm1, sm2, sm3, sm4⟩ := hfx.small
  have HCP := hide (fun W (h : Below w.heap.size w W) => CopyNode_any x lv vv nv hv W (hx.below h) (by omega) (by omega) (by omega) (by omega))
  have HFO := hide (fun W (h : Below w.heap.size w W) => Follower_any x lv vv nv hv W (hx.below h) (by omega))
  have HKI := hide hk
  have HCK := hide hck
  clear hok hck htf hfx hfm hk sm1 sm2 sm3 sm4
  have HX := hide hx
  have HEV := hide he
  obtain ⟨n, id, te, vo, lo, ro, co, vs, ns, hs⟩ := x
  obtain ⟨h1, h2, h3, h4⟩ := hx
  simp only at h1 h2 h3 h4
  obtain ⟨ao, cap, rfl, hc1, hc2⟩ := h1.shape
  obtain ⟨bo, cap2, rfl, hd1, hd2⟩ := h2.shape
  obtain ⟨no, cap3, rfl, _, _⟩ := h3.shape
  obtain ⟨ho, cap4, rfl, _, _⟩ := h4.shape
  obtain ⟨ki, fr, dt, mt, ma, mb, mc, es, ok⟩ := m
  simp only at he
  obtain ⟨eo, ec, rfl, he1, he2⟩ := he.shape
  obtain ⟨hP, hM, hR, hQ, hA, hS⟩ := four_at w #[.int .i64 n, .int .i64 id, .int .i64 te, .int .i64 vo, .slice ao lo.length cap, .int .i64 ro, .int .i64 co, .slice bo vs.length cap2, .slice no ns.length cap3, .slice ho hs.length cap4] #[.int .i64 ki, .int .i64 fr, .int .i64 dt, .int .i64 mt, .int .i64 ma, .int .i64 mb, .int .i64 mc, .slice eo es.length ec, .bool ok] #[.int .i64 0, .int .i64 0, .int .i64 0, .int .i64 0, .slice none 0 0, .int .i64 0, .int .i64 0, .slice none 0 0, .slice none 0 0, .slice none 0 0] #[.int .i64 0, .int .i64 0] 25 44 25 30
  have HC1 := hide (NodeFault_any ⟨n, id, te, vo, lo, ro, co, vs, ns, hs⟩ _ _ _ _ _ (HX.out.below hA))
  rw [HCK.out] at HC1
  unfold ndV ndA mlV mlA at HMC
  unfold ndV ndA at HCP HFO
  dsimp only [Nd.follow] at HFO
  dsimp only at HCP HKI HFM
  obtain ⟨p, hp0⟩ : ∃ p : Int, p = 0 := ⟨_, rfl⟩
  obtain ⟨q, hq0⟩ : ∃ q : Int, q = 0 := ⟨_, rfl⟩
  unfold ndV ndA flt at HC1
  unfold ndV ndA mlV mlA
  have HP := hide hP
  have HM := hide hM
  have HR := hide hR
  have HQ := hide hQ
  have HA := hide hA
  have HS := hide hS
  clear h1 h2 h3 h4 he hP hM hR hQ hA hS
  go_enter Try.func25, Try.ntmps25
  go_wp2_with (refine wpList_load_blk HP.out Try.underlying25 rfl Try.sizeNode rfl rfl rfl ?_)
  refine HC1.out.mono ?_
  rintro e w1 ⟨rfl, hb1⟩
  have hN := below_allocG w1 (.cells #[.int .i64 0, .int .i64 0] 30)
  have HP1 := hide ((HP.out.later hb1).later hN)
  have HM1 := hide ((HM.out.later hb1).later hN)
  have HR1 := hide ((HR.out.later hb1).later hN)
  have HQ1 := hide ((HQ.out.later hb1).later hN)
  have hAA := HA.out.trans (hb1.mono HA.out.size)
  have HA1 := hide (hAA.trans (hN.mono hAA.size))
  have HS1 := hide (show w.heap.size + 4 ≤ w1.heap.size by have := hb1.size; have := HS.out; omega)
  have HF1 := hide (Blk.new w1 30 #[.int .i64 0, .int .i64 0])
  have HL1 := hide (show w1.heap.size < (w1.alloc (.cells #[.int .i64 0, .int .i64 0] 30)).heap.size by simp)
  have hrq : w.heap.size + 1 + 1 ≠ w.heap.size + 1 + 1 + 1 := by omega
  have hqr : w.heap.size + 1 + 1 + 1 ≠ w.heap.size + 1 + 1 := by omega
  clear hb1 hN hAA HC1 HP HM HR HQ HA HS
  have kd1 : (ki == 1) = true := by rw [HKI.out]; rfl
  clear hp0 hq0 p q
  have HMC1 := hide (HMC.out _ HA1.out)
  clear HMC
  go_upto_region 2 with fail
  generalize hWW : (w1.alloc (.cells #[.int .i64 0, .int .i64 0] 30)) = W at HP1 HM1 HR1 HQ1 HA1 HF1 HMC1 HL1 ⊢
  clear hWW
  have f0 := HF1.out.cell 0
  simp at f0
  go_upto_region 4 with (first
    | (refine wpList_load_blkW HP1.out Try.underlying25 rfl Try.sizeNode rfl rfl rfl ?_)
    | (refine wpList_load_blkW HM1.out Try.underlying44 rfl Try.sizeMail rfl rfl rfl ?_)
    | (go_at_call 52; refine HMC1.out.mono ?_; rintro e w2 ⟨rfl, hb2⟩; have HP2 := hide (HP1.out.later hb2); have HM2 := hide (HM1.out.later hb2); have HR2 := hide (HR1.out.later hb2); have HQ2 := hide (HQ1.out.later hb2); have HF2 := hide (HF1.out.later hb2); have HA2 := hide (HA1.out.trans (hb2.mono HA1.out.size)); have hz2 := hb2.size; have HL2 := hide (Nat.lt_of_lt_of_le HL1.out hb2.size); clear hb2 HP1 HM1 HR1 HQ1 HF1 HA1 HL1))
  clear f0 HMC1
  have f0 := HF2.out.cell 0
  simp at f0
  have HCP2 := hide (HCP.out _ HA2.out)
  clear HCP
  go_wp2_with (refine wpList_load_blk HP2.out Try.underlying25 rfl Try.sizeNode rfl rfl rfl ?_)
  refine HCP2.out.mono ?_
  rintro e w3 ⟨lab, lv2, vv2, nv2, hv2, rfl, hnw, hlab, hb3⟩
  obtain ⟨lo2, lc2, hs1⟩ := owns_shapeK hnw.log.1
  obtain ⟨vo2, vc2, hs2⟩ := owns_shapeK hnw.vot.1
  obtain ⟨no2, nc2, hs3⟩ := owns_shapeK hnw.nxt.1
  obtain ⟨ho2, hc2', hs4⟩ := owns_shapeK hnw.hav.1
  subst hs1 hs2 hs3 hs4
  have HD0 := hide hnw.layD
  unfold ndA at HD0
  have hNB := below_allocG w3 (.cells #[.int .i64 n, .int .i64 id, .int .i64 te, .int .i64 vo, .slice lo2 lo.length lc2, .int .i64 ro, .int .i64 co, .slice vo2 vs.length vc2, .slice no2 ns.length nc2, .slice ho2 hs.length hc2'] 25)
  have hbB := hb3.trans (hNB.mono hb3.size)
  have HP3 := hide (HP2.out.later hbB)
  have HM3 := hide (HM2.out.later hbB)
  have HR3 := hide (HR2.out.later hbB)
  have HQ3 := hide (HQ2.out.later hbB)
  have HF3 := hide (HF2.out.later hbB)
  have HA3 := hide (HA2.out.trans (hbB.mono HA2.out.size))
  have HLY := hide (show w1.heap.size < w3.heap.size from Nat.lt_of_lt_of_le HL2.out hb3.size)
  have HLB := hide (show ∀ g, g ≤ w1.heap.size → labTo lab (some w3.heap.size) 5 g = 0 from fun g hg => by
    unfold labTo
    rw [if_neg (fun q => by simp at q; have := HLY.out; omega)]
    exact hlab g (by have := HL2.out; omega))
  have HYS := hide (show w3.heap.size < (w3.alloc (.cells #[.int .i64 n, .int .i64 id, .int .i64 te, .int .i64 vo, .slice lo2 lo.length lc2, .int .i64 ro, .int .i64 co, .slice vo2 vs.length vc2, .slice no2 ns.length nc2, .slice ho2 hs.length hc2'] 25)).heap.size by simp)
  clear hnw hlab hb3 hNB hbB HP2 HM2 HR2 HQ2 HF2 HA2 HCP2 f0 HL2
  dsimp only at HD0 ⊢
  go_upto_region 7 with fail
  generalize hWB : (w3.alloc (.cells #[.int .i64 n, .int .i64 id, .int .i64 te, .int .i64 vo, .slice lo2 lo.length lc2, .int .i64 ro, .int .i64 co, .slice vo2 vs.length vc2, .slice no2 ns.length nc2, .slice ho2 hs.length hc2'] 25)) = WB at HD0 HP3 HM3 HR3 HQ3 HF3 HA3 HYS ⊢
  clear hWB
  have p1 := HP3.out.cell 1
  have p2 := HP3.out.cell 2
  have m3 := HM3.out.cell 3
  have pl := HP3.out.lt
  have ml := HM3.out.lt
  simp at p1 p2 m3
  go_upto_if 42 with fail
  generalize hTB : decide (te < mt) = TB
  have HTB := hide hTB
  clear hTB
  go_cut [8] (fun yv wc => yv = .pointer (some ⟨w3.heap.size, 0, none⟩) ∧ ∃ lab lv5 vv5 nv5 hv5, Dm wc lab w3.heap.size (Nd.hear ⟨n, id, te, vo, lo, ro, co, vs, ns, hs⟩ mt) lv5 vv5 nv5 hv5 ∧ (∀ g, g ≤ w1.heap.size → lab g = 0) ∧ Blk wc (w.heap.size) 25 #[.int .i64 n, .int .i64 id, .int .i64 te, .int .i64 vo, .slice ao lo.length cap, .int .i64 ro, .int .i64 co, .slice bo vs.length cap2, .slice no ns.length cap3, .slice ho hs.length cap4] ∧ Blk wc (w.heap.size + 1) 44 #[.int .i64 ki, .int .i64 fr, .int .i64 dt, .int .i64 mt, .int .i64 ma, .int .i64 mb, .int .i64 mc, .slice eo es.length ec, .bool ok] ∧ Blk wc (w.heap.size + 1 + 1) 25 #[.int .i64 0, .int .i64 0, .int .i64 0, .int .i64 0, .slice none 0 0, .int .i64 0, .int .i64 0, .slice none 0 0, .slice none 0 0, .slice none 0 0] ∧ Blk wc (w.heap.size + 1 + 1 + 1) 30 #[.int .i64 0, .int .i64 0] ∧ Blk wc w1.heap.size 30 #[.int .i64 0, .int .i64 0] ∧ Below w.heap.size w wc)
  case first =>
    as_aux_lemma =>
      cases TB
      case false =>
        have htm := of_decide_eq_false HTB.out
        have HHE := hide (show Nd.hear ⟨n, id, te, vo, lo, ro, co, vs, ns, hs⟩ mt = ⟨n, id, te, vo, lo, ro, co, vs, ns, hs⟩ from if_neg htm)
        clear htm
        go_wp2_with fail
        go_meet
        case rel => exact ⟨rfl, _, _, _, _, _, by rw [HHE.out]; exact HD0.out, HLB.out, HP3.out, HM3.out, HR3.out, HQ3.out, HF3.out, HA3.out⟩
      have htm := of_decide_eq_true HTB.out
      have HHE := hide (show Nd.hear ⟨n, id, te, vo, lo, ro, co, vs, ns, hs⟩ mt = ⟨n, id, mt, 0, lo, 0, co, [], [], []⟩ from if_pos htm)
      clear htm
      have HFO3 := hide (HFO.out _ HA3.out)
      have HY3 := hide HD0.out.blk
      unfold ndA at HY3
      clear HFO
      go_upto_region 9 with (first
        | (refine wpList_load_blk HP3.out Try.underlying25 rfl Try.sizeNode rfl rfl rfl ?_)
        | (go_at_call 46; refine HFO3.out.mono ?_; rintro e w4 ⟨lv6, rfl, how6, hb4⟩; obtain ⟨lo6, lc6, hs6⟩ := owns_shapeK how6; subst hs6; have HP4 := hide (HP3.out.later hb4); have HM4 := hide (HM3.out.later hb4); have HR4 := hide (HR3.out.later hb4); have HQ4 := hide (HQ3.out.later hb4); have HF4 := hide (HF3.out.later hb4); have HY4 := hide (HY3.out.later hb4); have HA4 := hide (HA3.out.trans (hb4.mono HA3.out.size)); have HO4 := hide how6; have hz4 := hb4.size; clear hb4 how6)
        | (refine wpList_store_blk rfl rfl rfl rfl HY4.out rfl Try.sizeNode rfl ?_; intro w5 hY5 hg5; have HY5 := hide hY5; have hne := HLY.out; have HP5 := hide (HP4.out.grown hg5 (by simp; have := HS1.out; omega)); have HM5 := hide (HM4.out.grown hg5 (by simp; have := HS1.out; omega)); have HR5 := hide (HR4.out.grown hg5 (by simp; have := HS1.out; omega)); have HQ5 := hide (HQ4.out.grown hg5 (by simp; have := HS1.out; omega)); have HF5 := hide (HF4.out.grown hg5 (by simp; omega)); have HA5 := hide (below_grownO HA4.out hg5 (fun k hk => by cases hk; have := HS1.out; omega) HA4.out.size); have HO5 := hide (owns_grownO HO4.out hg5 (.inr (fun q => by have := (HO4.out.lt _ q).1; have := HYS.out; omega))); clear hY5 hg5))
      clear p1 p2 m3 pl ml HP3 HM3 HR3 HQ3 HF3 HA3 HY3 HFO3 HP4 HM4 HR4 HQ4 HF4 HA4 HO4 HY4 HD0 HLB
      have m3 := HM5.out.cell 3
      have ml := HM5.out.lt
      simp at m3
      go_upto_region 11 with (first
        | (refine wpList_store_int (k := 2) rfl rfl rfl rfl HY5.out rfl Try.sizeIntR ?_; intro w6 hY6 hg6; have HY6 := hide hY6; have HP6 := hide (HP5.out.grown hg6 (by simp; have := HS1.out; omega)); have HM6 := hide (HM5.out.grown hg6 (by simp; have := HS1.out; omega)); have HR6 := hide (HR5.out.grown hg6 (by simp; have := HS1.out; omega)); have HQ6 := hide (HQ5.out.grown hg6 (by simp; have := HS1.out; omega)); have HF6 := hide (HF5.out.grown hg6 (by simp; omega)); have HA6 := hide (below_grownO HA5.out hg6 (fun k hk => by cases hk; have := HS1.out; omega) HA5.out.size); have HO6 := hide (owns_grownO HO5.out hg6 (.inr (fun q => by have := (HO5.out.lt _ q).1; have := HYS.out; omega))); clear hY6 hg6)
        | (refine wpList_store_int (k := 3) rfl rfl rfl rfl HY6.out rfl Try.sizeIntR ?_; intro w7 hY7 hg7; have HY7 := hide hY7; have HP7 := hide (HP6.out.grown hg7 (by simp; have := HS1.out; omega)); have HM7 := hide (HM6.out.grown hg7 (by simp; have := HS1.out; omega)); have HR7 := hide (HR6.out.grown hg7 (by simp; have := HS1.out; omega)); have HQ7 := hide (HQ6.out.grown hg7 (by simp; have := HS1.out; omega)); have HF7 := hide (HF6.out.grown hg7 (by simp; omega)); have HA7 := hide (below_grownO HA6.out hg7 (fun k hk => by cases hk; have := HS1.out; omega) HA6.out.size); have HO7 := hide (owns_grownO HO6.out hg7 (.inr (fun q => by have := (HO6.out.lt _ q).1; have := HYS.out; omega))); clear hY7 hg7))
      go_meet
      case rel =>
        refine ⟨rfl, _, _, _, _, _, by rw [HHE.out]; exact Dm.ofLog (base := WB.heap.size) HY7.out HO7.out HYS.out rfl rfl rfl, fun g hg => ?_, HP7.out, HM7.out, HR7.out, HQ7.out, HF7.out, HA7.out⟩
        have hne := HLY.out
        have hys := HYS.out
        show (if _ then _ else _) = _
        rw [if_neg (fun q => by have := (HO7.out.lt g q).1; omega), if_neg (by omega)]
  case rest =>
    as_aux_lemma =>
      obtain ⟨wk, hwk⟩ : ∃ wk, wk = wc := ⟨_, rfl⟩
      subst hwk
      obtain ⟨rfl, lab5, lv5, vv5, nv5, hv5, hdm, hlb5, hP5, hM5, hR5, hQ5, hF5, hA5⟩ := hcut
      have HTK := hide (show Nd.take ⟨n, id, te, vo, lo, ro, co, vs, ns, hs⟩ ⟨ki, fr, dt, mt, ma, mb, mc, es, ok⟩ = t1N (Nd.hear ⟨n, id, te, vo, lo, ro, co, vs, ns, hs⟩ mt) ⟨ki, fr, dt, mt, ma, mb, mc, es, ok⟩ by unfold Nd.take; rw [if_pos HKI.out])
      have HSD := hide (show Nd.sends ⟨n, id, te, vo, lo, ro, co, vs, ns, hs⟩ ⟨ki, fr, dt, mt, ma, mb, mc, es, ok⟩ = t1M (Nd.hear ⟨n, id, te, vo, lo, ro, co, vs, ns, hs⟩ mt) ⟨ki, fr, dt, mt, ma, mb, mc, es, ok⟩ by unfold Nd.sends; rw [if_pos HKI.out])
      have HEF := hide (hear_fix ⟨n, id, te, vo, lo, ro, co, vs, ns, hs⟩ mt)
      have HFH := hide (HFX.out.hear HFM.out.t2)
      have HTT := hide (hear_term (x := ⟨n, id, te, vo, lo, ro, co, vs, ns, hs⟩) (t := mt)).1
      generalize hH : Nd.hear ⟨n, id, te, vo, lo, ro, co, vs, ns, hs⟩ mt = H at hdm HTK HSD HEF HFH HTT
      dsimp only at HEF HFM
      have HHH := hide hH
      obtain ⟨lo5, lc5, hs1⟩ := owns_shapeK hdm.log.1
      obtain ⟨vo5, vc5, hs2⟩ := owns_shapeK hdm.vot.1
      obtain ⟨no5, nc5, hs3⟩ := owns_shapeK hdm.nxt.1
      obtain ⟨ho5, hc5, hs4⟩ := owns_shapeK hdm.hav.1
      subst hs1 hs2 hs3 hs4
      clear hH HD0 HP3 HM3 HR3 HQ3 HF3 HA3 HYS p1 p2 m3 pl ml HFO HLB HTB
      have hN := below_allocG wk (.cells #[.int .i64 0, .int .i64 id, .int .i64 fr, .int .i64 H.term, .int .i64 0, .int .i64 0, .int .i64 0, .slice none 0 0, .bool false] 44)
      have HD6 := hide (hdm.below hN)
      have HM6 := hide (hM5.later hN)
      have HR6 := hide (hR5.later hN)
      have HQ6 := hide (hQ5.later hN)
      have HF6 := hide (hF5.later hN)
      have HA6 := hide (hA5.trans (hN.mono hA5.size))
      have HK6 := hide (Blk.new wk 44 #[.int .i64 0, .int .i64 id, .int .i64 fr, .int .i64 H.term, .int .i64 0, .int .i64 0, .int .i64 0, .slice none 0 0, .bool false])
      have HLK := hide (show lab5 wk.heap.size = 0 from hdm.ok _ (Nat.le_refl _))
      have HLB5 := hide hlb5
      have HYK := hide (show w3.heap.size < wk.heap.size from hdm.blk.lt)
      have hY5 := hdm.blk
      unfold ndA at hY5
      have y2 := hY5.cell 2
      have yl := hY5.lt
      have p1 := hP5.cell 1
      have pl := hP5.lt
      have m0 := hM5.cell 0
      have m1 := hM5.cell 1
      have ml := hM5.lt
      simp at y2 p1 m0 m1
      clear hdm hlb5 hP5 hM5 hR5 hQ5 hF5 hA5 hN hY5
      go_upto_region 12 with fail
      generalize hW6 : wk.alloc (.cells #[.int .i64 0, .int .i64 id, .int .i64 fr, .int .i64 H.term, .int .i64 0, .int .i64 0, .int .i64 0, .slice none 0 0, .bool false] 44) = W6 at HD6 HM6 HR6 HQ6 HF6 HA6 HK6 ⊢
      clear hW6 y2 yl p1 pl m0 m1 ml
      have m0 := HM6.out.cell 0
      have ml := HM6.out.lt
      simp at m0
      have hi1 := HS1.out
      have hi2 := HLY.out
      have hi3 := HYK.out
      go_upto_region 15 with (refine wpList_store_int (k := 0) rfl rfl rfl rfl HK6.out rfl Try.sizeIntR ?_; intro w7 hK7 hg7; have HK7 := hide hK7; have HD7 := hide (HD6.out.off0 hg7 HLK.out); have HM7 := hide (HM6.out.grown hg7 (by simp; omega)); have HR7 := hide (HR6.out.grown hg7 (by simp; omega)); have HQ7 := hide (HQ6.out.grown hg7 (by simp; omega)); have HF7 := hide (HF6.out.grown hg7 (by simp; omega)); have HA7 := hide (below_grownO HA6.out hg7 (fun k hk => by cases hk; omega) HA6.out.size); clear hK7 hg7)
      clear HK6 HD6 HM6 HR6 HQ6 HF6 HA6 m0 ml
      have HOL := hide (fun W (h : Below w7.heap.size w7 W) => OlderLog_any (.slice lo5 H.log.length lc5) H.log ma mb W (HD7.out.rd.log.below h))
      have HLT := hide (fun W (h : Below w7.heap.size w7 W) => LastTerm_any (.slice lo5 H.log.length lc5) H.log W (HD7.out.rd.log.below h))
      have HDR := hide (show Below w7.heap.size w7 w7.drew from Below.drew (Below.refl _ _))
      have hY7 := HD7.out.blk
      unfold ndA at hY7
      have HY7 := hide hY7
      clear hY7
      have HKEEP : Hid (∀ W, Below w7.heap.size w7 W → W.cell? ⟨w3.heap.size, 4, none⟩ = some (.slice lo5 H.log.length lc5) ∧ W.cell? ⟨w.heap.size + 1, 4, none⟩ = some (.int .i64 ma) ∧ W.cell? ⟨w.heap.size + 1, 5, none⟩ = some (.int .i64 mb)) := hide (fun W hW => ⟨(HY7.out.later hW).cell 4, (HM7.out.later hW).cell 4, (HM7.out.later hW).cell 5⟩)
      have yl := HY7.out.lt
      have ml := HM7.out.lt
      try dsimp only [Act.put]
      go_cut [10] (fun b wc => b = .bool (newB H.log ma mb) ∧ Below w7.heap.size w7 wc)
      case first =>
        have HNB : Hid (newB H.log ma mb = (!oldB H.log ma mb && (decide (ma ≠ H.log.length) || decide (mb ≠ lastT H.log)))) := hide rfl
        generalize lastT H.log = LT at HNB HLT
        generalize oldB H.log ma mb = OB at HNB HOL
        cases OB
        case true =>
          have HN := hide (show newB H.log ma mb = false by rw [HNB.out]; rfl)
          as_aux_lemma =>
            refine wp_region_heldD (S := fun W => W.cell? ⟨w3.heap.size, 4, none⟩ = some (.slice lo5 H.log.length lc5) ∧ W.cell? ⟨w.heap.size + 1, 4, none⟩ = some (.int .i64 ma) ∧ W.cell? ⟨w.heap.size + 1, 5, none⟩ = some (.int .i64 mb)) (n := 25) (l := (upB 25 0).toArray) (by kernel_rfl) (by kernel_rfl) (by kernel_rfl) (by kernel_rfl) (HKEEP.out _ HDR.out) (fun HNS hHeld => ?_)
            refine wpAnyH_takeD (l' := (upB 25 1).toArray) (i := 0) (fuel := 24) (v := ?v1x0) rfl HNS.out (by kernel_rfl) (by kernel_rfl) (by kernel_rfl) (fun _ _ _ h => h) (by kernel_rfl) ?y1x0 hHeld ?r1x0
            case y1x0 => (intro W hSw; go_simp; first | done | with_reducible rfl)
            try simp only [Act.put, List.setIfInBounds_toArray, List.set_cons_zero, List.set_cons_succ]
            refine wpAnyH_takeD (l' := (upB 25 2).toArray) (i := 1) (fuel := 23) (v := ?v1x1) rfl HNS.out (by kernel_rfl) (by kernel_rfl) (by kernel_rfl) (fun _ _ _ h => h) (by kernel_rfl) ?y1x1 hHeld ?r1x1
            case y1x1 => (intro W hSw; (try dsimp only at hSw); go_simp; first | done | with_reducible rfl)
            try simp only [Act.put, List.setIfInBounds_toArray, List.set_cons_zero, List.set_cons_succ]
            refine wpAnyH_takeD (l' := (upB 25 3).toArray) (i := 2) (fuel := 22) (v := ?v1x2) rfl HNS.out (by kernel_rfl) (by kernel_rfl) (by kernel_rfl) (fun _ _ _ h => h) (by kernel_rfl) ?y1x2 hHeld ?r1x2
            case y1x2 => (intro W hSw; go_simp; first | done | with_reducible rfl)
            try simp only [Act.put, List.setIfInBounds_toArray, List.set_cons_zero, List.set_cons_succ]
            refine wpAnyH_takeD (l' := (upB 25 4).toArray) (i := 3) (fuel := 21) (v := ?v1x3) rfl HNS.out (by kernel_rfl) (by kernel_rfl) (by kernel_rfl) (fun _ _ _ h => h) (by kernel_rfl) ?y1x3 hHeld ?r1x3
            case y1x3 => (intro W hSw; (try dsimp only at hSw); go_simp; first | done | with_reducible rfl)
            try simp only [Act.put, List.setIfInBounds_toArray, List.set_cons_zero, List.set_cons_succ]
            refine wpAnyH_takeD (l' := (upB 25 5).toArray) (i := 4) (fuel := 20) (v := ?v1x4) rfl HNS.out (by kernel_rfl) (by kernel_rfl) (by kernel_rfl) (fun _ _ _ h => h) (by kernel_rfl) ?y1x4 hHeld ?r1x4
            case y1x4 => (intro W hSw; go_simp; first | done | with_reducible rfl)
            try simp only [Act.put, List.setIfInBounds_toArray, List.set_cons_zero, List.set_cons_succ]
            refine wpAnyH_takeD (l' := (upB 25 6).toArray) (i := 5) (fuel := 19) (v := ?v1x5) rfl HNS.out (by kernel_rfl) (by kernel_rfl) (by kernel_rfl) (fun _ _ _ h => h) (by kernel_rfl) ?y1x5 hHeld ?r1x5
            case y1x5 => (intro W hSw; (try dsimp only at hSw); go_simp; first | done | with_reducible rfl)
            try simp only [Act.put, List.setIfInBounds_toArray, List.set_cons_zero, List.set_cons_succ]
            refine wpAnyH_oneD (l' := (upB 25 7).toArray) (i := 6) (fuel := 18) rfl (by kernel_rfl) (by kernel_rfl) (fun Kc hK => ?_)
            go_simp
            go_at_call 53
            refine (HOL.out _ HDR.out).mono ?_
            rintro e w8 ⟨rfl, rfl⟩
            go_wp2_with fail
            refine hK.out _ _ hHeld (fun _ => ?_)
            clear hK Kc
            try simp only [Act.put, List.setIfInBounds_toArray, List.set_cons_zero, List.set_cons_succ]
            refine wpAnyH_takeD (l' := (upB 25 8).toArray) (i := 7) (fuel := 17) (v := ?v1x7) rfl HNS.out (by kernel_rfl) (by kernel_rfl) (by kernel_rfl) (fun _ _ _ h => h) (by kernel_rfl) ?y1x7 hHeld ?r1x7
            case y1x7 => (intro W hSw; go_simp; first | done | with_reducible rfl)
            try simp only [Act.put, List.setIfInBounds_toArray, List.set_cons_zero, List.set_cons_succ]
            refine wpAnyH_takeD (l' := (upB 25 9).toArray) (i := 8) (fuel := 16) (v := ?v1x8) rfl HNS.out (by kernel_rfl) (by kernel_rfl) (by kernel_rfl) (fun _ _ _ h => h) (by kernel_rfl) ?y1x8 hHeld ?r1x8
            case y1x8 => (intro W hSw; go_simp; first | done | with_reducible rfl)
            try simp only [Act.put, List.setIfInBounds_toArray, List.set_cons_zero, List.set_cons_succ]
            refine wpAnyH_skipD (l' := (upB 25 10).toArray) (i := 9) (fuel := 15) rfl HNS.out (by kernel_rfl) (by kernel_rfl) (by kernel_rfl) (fun _ _ _ h => h) (by kernel_rfl) hHeld ?_
            try simp only [Act.put, List.setIfInBounds_toArray, List.set_cons_zero, List.set_cons_succ]
            refine wpAnyH_skipD (l' := (upB 25 11).toArray) (i := 10) (fuel := 14) rfl HNS.out (by kernel_rfl) (by kernel_rfl) (by kernel_rfl) (fun _ _ _ h => h) (by kernel_rfl) hHeld ?_
            try simp only [Act.put, List.setIfInBounds_toArray, List.set_cons_zero, List.set_cons_succ]
            refine wpAnyH_skipD (l' := (upB 25 12).toArray) (i := 11) (fuel := 13) rfl HNS.out (by kernel_rfl) (by kernel_rfl) (by kernel_rfl) (fun _ _ _ h => h) (by kernel_rfl) hHeld ?_
            try simp only [Act.put, List.setIfInBounds_toArray, List.set_cons_zero, List.set_cons_succ]
            refine wpAnyH_skipD (l' := (upB 25 13).toArray) (i := 12) (fuel := 12) rfl HNS.out (by kernel_rfl) (by kernel_rfl) (by kernel_rfl) (fun _ _ _ h => h) (by kernel_rfl) hHeld ?_
            try simp only [Act.put, List.setIfInBounds_toArray, List.set_cons_zero, List.set_cons_succ]
            refine wpAnyH_skipD (l' := (upB 25 14).toArray) (i := 13) (fuel := 11) rfl HNS.out (by kernel_rfl) (by kernel_rfl) (by kernel_rfl) (fun _ _ _ h => h) (by kernel_rfl) hHeld ?_
            try simp only [Act.put, List.setIfInBounds_toArray, List.set_cons_zero, List.set_cons_succ]
            refine wpAnyH_skipD (l' := (upB 25 15).toArray) (i := 14) (fuel := 10) rfl HNS.out (by kernel_rfl) (by kernel_rfl) (by kernel_rfl) (fun _ _ _ h => h) (by kernel_rfl) hHeld ?_
            try simp only [Act.put, List.setIfInBounds_toArray, List.set_cons_zero, List.set_cons_succ]
            refine wpAnyH_skipD (l' := (upB 25 16).toArray) (i := 15) (fuel := 9) rfl HNS.out (by kernel_rfl) (by kernel_rfl) (by kernel_rfl) (fun _ _ _ h => h) (by kernel_rfl) hHeld ?_
            try simp only [Act.put, List.setIfInBounds_toArray, List.set_cons_zero, List.set_cons_succ]
            refine wpAnyH_skipD (l' := (upB 25 17).toArray) (i := 16) (fuel := 8) rfl HNS.out (by kernel_rfl) (by kernel_rfl) (by kernel_rfl) (fun _ _ _ h => h) (by kernel_rfl) hHeld ?_
            try simp only [Act.put, List.setIfInBounds_toArray, List.set_cons_zero, List.set_cons_succ]
            refine wpAnyH_skipD (l' := (upB 25 18).toArray) (i := 17) (fuel := 7) rfl HNS.out (by kernel_rfl) (by kernel_rfl) (by kernel_rfl) (fun _ _ _ h => h) (by kernel_rfl) hHeld ?_
            try simp only [Act.put, List.setIfInBounds_toArray, List.set_cons_zero, List.set_cons_succ]
            refine wpAnyH_skipD (l' := (upB 25 19).toArray) (i := 18) (fuel := 6) rfl HNS.out (by kernel_rfl) (by kernel_rfl) (by kernel_rfl) (fun _ _ _ h => h) (by kernel_rfl) hHeld ?_
            try simp only [Act.put, List.setIfInBounds_toArray, List.set_cons_zero, List.set_cons_succ]
            refine wpAnyH_skipD (l' := (upB 25 20).toArray) (i := 19) (fuel := 5) rfl HNS.out (by kernel_rfl) (by kernel_rfl) (by kernel_rfl) (fun _ _ _ h => h) (by kernel_rfl) hHeld ?_
            try simp only [Act.put, List.setIfInBounds_toArray, List.set_cons_zero, List.set_cons_succ]
            refine wpAnyH_skipD (l' := (upB 25 21).toArray) (i := 20) (fuel := 4) rfl HNS.out (by kernel_rfl) (by kernel_rfl) (by kernel_rfl) (fun _ _ _ h => h) (by kernel_rfl) hHeld ?_
            try simp only [Act.put, List.setIfInBounds_toArray, List.set_cons_zero, List.set_cons_succ]
            refine wpAnyH_skipD (l' := (upB 25 22).toArray) (i := 21) (fuel := 3) rfl HNS.out (by kernel_rfl) (by kernel_rfl) (by kernel_rfl) (fun _ _ _ h => h) (by kernel_rfl) hHeld ?_
            try simp only [Act.put, List.setIfInBounds_toArray, List.set_cons_zero, List.set_cons_succ]
            refine wpAnyH_skipD (l' := (upB 25 23).toArray) (i := 22) (fuel := 2) rfl HNS.out (by kernel_rfl) (by kernel_rfl) (by kernel_rfl) (fun _ _ _ h => h) (by kernel_rfl) hHeld ?_
            try simp only [Act.put, List.setIfInBounds_toArray, List.set_cons_zero, List.set_cons_succ]
            refine wpAnyH_takeD (l' := (upB 25 24).toArray) (i := 23) (fuel := 1) (v := ?v1x23) rfl HNS.out (by kernel_rfl) (by kernel_rfl) (by kernel_rfl) (fun _ _ _ h => h) (by kernel_rfl) ?y1x23 hHeld ?r1x23
            case y1x23 => (intro W hSw; go_simp; first | done | with_reducible rfl)
            try simp only [Act.put, List.setIfInBounds_toArray, List.set_cons_zero, List.set_cons_succ]
            refine wpAnyH_takeD (l' := (upB 25 25).toArray) (i := 24) (fuel := 0) (v := ?v1x24) rfl HNS.out (by kernel_rfl) (by kernel_rfl) (by kernel_rfl) (fun _ _ _ h => h) (by kernel_rfl) ?y1x24 hHeld ?r1x24
            case y1x24 => (intro W hSw; go_simp; first | done | with_reducible rfl)
            try simp only [Act.put, List.setIfInBounds_toArray, List.set_cons_zero, List.set_cons_succ]
            refine wpAnyH_done (by kernel_rfl) ?_ _
            go_wp2_with fail
            go_meet
            case rel => exact ⟨by rw [HN.out], HDR.out⟩
        by_cases hma : ma = H.log.length
        case neg =>
          have d1 : (ma != (H.log.length : Int)) = true := by simp [hma]
          have HN := hide (show newB H.log ma mb = true by rw [HNB.out]; simp [hma])
          clear hma
          as_aux_lemma =>
            refine wp_region_heldD (S := fun W => W.cell? ⟨w3.heap.size, 4, none⟩ = some (.slice lo5 H.log.length lc5) ∧ W.cell? ⟨w.heap.size + 1, 4, none⟩ = some (.int .i64 ma) ∧ W.cell? ⟨w.heap.size + 1, 5, none⟩ = some (.int .i64 mb)) (n := 25) (l := (upB 25 0).toArray) (by kernel_rfl) (by kernel_rfl) (by kernel_rfl) (by kernel_rfl) (HKEEP.out _ HDR.out) (fun HNS hHeld => ?_)
            refine wpAnyH_takeD (l' := (upB 25 1).toArray) (i := 0) (fuel := 24) (v := ?v2x0) rfl HNS.out (by kernel_rfl) (by kernel_rfl) (by kernel_rfl) (fun _ _ _ h => h) (by kernel_rfl) ?y2x0 hHeld ?r2x0
            case y2x0 => (intro W hSw; go_simp; first | done | with_reducible rfl)
            try simp only [Act.put, List.setIfInBounds_toArray, List.set_cons_zero, List.set_cons_succ]
            refine wpAnyH_takeD (l' := (upB 25 2).toArray) (i := 1) (fuel := 23) (v := ?v2x1) rfl HNS.out (by kernel_rfl) (by kernel_rfl) (by kernel_rfl) (fun _ _ _ h => h) (by kernel_rfl) ?y2x1 hHeld ?r2x1
            case y2x1 => (intro W hSw; (try dsimp only at hSw); go_simp; first | done | with_reducible rfl)
            try simp only [Act.put, List.setIfInBounds_toArray, List.set_cons_zero, List.set_cons_succ]
            refine wpAnyH_takeD (l' := (upB 25 3).toArray) (i := 2) (fuel := 22) (v := ?v2x2) rfl HNS.out (by kernel_rfl) (by kernel_rfl) (by kernel_rfl) (fun _ _ _ h => h) (by kernel_rfl) ?y2x2 hHeld ?r2x2
            case y2x2 => (intro W hSw; go_simp; first | done | with_reducible rfl)
            try simp only [Act.put, List.setIfInBounds_toArray, List.set_cons_zero, List.set_cons_succ]
            refine wpAnyH_takeD (l' := (upB 25 4).toArray) (i := 3) (fuel := 21) (v := ?v2x3) rfl HNS.out (by kernel_rfl) (by kernel_rfl) (by kernel_rfl) (fun _ _ _ h => h) (by kernel_rfl) ?y2x3 hHeld ?r2x3
            case y2x3 => (intro W hSw; (try dsimp only at hSw); go_simp; first | done | with_reducible rfl)
            try simp only [Act.put, List.setIfInBounds_toArray, List.set_cons_zero, List.set_cons_succ]
            refine wpAnyH_takeD (l' := (upB 25 5).toArray) (i := 4) (fuel := 20) (v := ?v2x4) rfl HNS.out (by kernel_rfl) (by kernel_rfl) (by kernel_rfl) (fun _ _ _ h => h) (by kernel_rfl) ?y2x4 hHeld ?r2x4
            case y2x4 => (intro W hSw; go_simp; first | done | with_reducible rfl)
            try simp only [Act.put, List.setIfInBounds_toArray, List.set_cons_zero, List.set_cons_succ]
            refine wpAnyH_takeD (l' := (upB 25 6).toArray) (i := 5) (fuel := 19) (v := ?v2x5) rfl HNS.out (by kernel_rfl) (by kernel_rfl) (by kernel_rfl) (fun _ _ _ h => h) (by kernel_rfl) ?y2x5 hHeld ?r2x5
            case y2x5 => (intro W hSw; (try dsimp only at hSw); go_simp; first | done | with_reducible rfl)
            try simp only [Act.put, List.setIfInBounds_toArray, List.set_cons_zero, List.set_cons_succ]
            refine wpAnyH_oneD (l' := (upB 25 7).toArray) (i := 6) (fuel := 18) rfl (by kernel_rfl) (by kernel_rfl) (fun Kc hK => ?_)
            go_simp
            go_at_call 53
            refine (HOL.out _ HDR.out).mono ?_
            rintro e w8 ⟨rfl, rfl⟩
            go_wp2_with fail
            refine hK.out _ _ hHeld (fun _ => ?_)
            clear hK Kc
            try simp only [Act.put, List.setIfInBounds_toArray, List.set_cons_zero, List.set_cons_succ]
            refine wpAnyH_takeD (l' := (upB 25 8).toArray) (i := 7) (fuel := 17) (v := ?v2x7) rfl HNS.out (by kernel_rfl) (by kernel_rfl) (by kernel_rfl) (fun _ _ _ h => h) (by kernel_rfl) ?y2x7 hHeld ?r2x7
            case y2x7 => (intro W hSw; go_simp; first | done | with_reducible rfl)
            try simp only [Act.put, List.setIfInBounds_toArray, List.set_cons_zero, List.set_cons_succ]
            refine wpAnyH_takeD (l' := (upB 25 9).toArray) (i := 8) (fuel := 16) (v := ?v2x8) rfl HNS.out (by kernel_rfl) (by kernel_rfl) (by kernel_rfl) (fun _ _ _ h => h) (by kernel_rfl) ?y2x8 hHeld ?r2x8
            case y2x8 => (intro W hSw; go_simp; first | done | with_reducible rfl)
            try simp only [Act.put, List.setIfInBounds_toArray, List.set_cons_zero, List.set_cons_succ]
            refine wpAnyH_takeD (l' := (upB 25 10).toArray) (i := 9) (fuel := 15) (v := ?v2x9) rfl HNS.out (by kernel_rfl) (by kernel_rfl) (by kernel_rfl) (fun _ _ _ h => h) (by kernel_rfl) ?y2x9 hHeld ?r2x9
            case y2x9 => (intro W hSw; go_simp; first | done | with_reducible rfl)
            try simp only [Act.put, List.setIfInBounds_toArray, List.set_cons_zero, List.set_cons_succ]
            refine wpAnyH_takeD (l' := (upB 25 11).toArray) (i := 10) (fuel := 14) (v := ?v2x10) rfl HNS.out (by kernel_rfl) (by kernel_rfl) (by kernel_rfl) (fun _ _ _ h => h) (by kernel_rfl) ?y2x10 hHeld ?r2x10
            case y2x10 => (intro W hSw; (try dsimp only at hSw); go_simp; first | done | with_reducible rfl)
            try simp only [Act.put, List.setIfInBounds_toArray, List.set_cons_zero, List.set_cons_succ]
            refine wpAnyH_takeD (l' := (upB 25 12).toArray) (i := 11) (fuel := 13) (v := ?v2x11) rfl HNS.out (by kernel_rfl) (by kernel_rfl) (by kernel_rfl) (fun _ _ _ h => h) (by kernel_rfl) ?y2x11 hHeld ?r2x11
            case y2x11 => (intro W hSw; go_simp; first | done | with_reducible rfl)
            try simp only [Act.put, List.setIfInBounds_toArray, List.set_cons_zero, List.set_cons_succ]
            refine wpAnyH_takeD (l' := (upB 25 13).toArray) (i := 12) (fuel := 12) (v := ?v2x12) rfl HNS.out (by kernel_rfl) (by kernel_rfl) (by kernel_rfl) (fun _ _ _ h => h) (by kernel_rfl) ?y2x12 hHeld ?r2x12
            case y2x12 => (intro W hSw; (try dsimp only at hSw); go_simp; first | done | with_reducible rfl)
            try simp only [Act.put, List.setIfInBounds_toArray, List.set_cons_zero, List.set_cons_succ]
            refine wpAnyH_takeD (l' := (upB 25 14).toArray) (i := 13) (fuel := 11) (v := ?v2x13) rfl HNS.out (by kernel_rfl) (by kernel_rfl) (by kernel_rfl) (fun _ _ _ h => h) (by kernel_rfl) ?y2x13 hHeld ?r2x13
            case y2x13 => (intro W hSw; go_simp; first | done | with_reducible rfl)
            try simp only [Act.put, List.setIfInBounds_toArray, List.set_cons_zero, List.set_cons_succ]
            refine wpAnyH_takeD (l' := (upB 25 15).toArray) (i := 14) (fuel := 10) (v := ?v2x14) rfl HNS.out (by kernel_rfl) (by kernel_rfl) (by kernel_rfl) (fun _ _ _ h => h) (by kernel_rfl) ?y2x14 hHeld ?r2x14
            case y2x14 => (intro W hSw; go_simp; first | done | with_reducible rfl)
            try simp only [Act.put, List.setIfInBounds_toArray, List.set_cons_zero, List.set_cons_succ]
            refine wpAnyH_takeD (l' := (upB 25 16).toArray) (i := 15) (fuel := 9) (v := ?v2x15) rfl HNS.out (by kernel_rfl) (by kernel_rfl) (by kernel_rfl) (fun _ _ _ h => h) (by kernel_rfl) ?y2x15 hHeld ?r2x15
            case y2x15 => (intro W hSw; go_simp; first | done | with_reducible rfl)
            try simp only [Act.put, List.setIfInBounds_toArray, List.set_cons_zero, List.set_cons_succ]
            refine wpAnyH_skipD (l' := (upB 25 17).toArray) (i := 16) (fuel := 8) rfl HNS.out (by kernel_rfl) (by kernel_rfl) (by kernel_rfl) (fun _ _ _ h => h) (by kernel_rfl) hHeld ?_
            try simp only [Act.put, List.setIfInBounds_toArray, List.set_cons_zero, List.set_cons_succ]
            refine wpAnyH_skipD (l' := (upB 25 18).toArray) (i := 17) (fuel := 7) rfl HNS.out (by kernel_rfl) (by kernel_rfl) (by kernel_rfl) (fun _ _ _ h => h) (by kernel_rfl) hHeld ?_
            try simp only [Act.put, List.setIfInBounds_toArray, List.set_cons_zero, List.set_cons_succ]
            refine wpAnyH_skipD (l' := (upB 25 19).toArray) (i := 18) (fuel := 6) rfl HNS.out (by kernel_rfl) (by kernel_rfl) (by kernel_rfl) (fun _ _ _ h => h) (by kernel_rfl) hHeld ?_
            try simp only [Act.put, List.setIfInBounds_toArray, List.set_cons_zero, List.set_cons_succ]
            refine wpAnyH_skipD (l' := (upB 25 20).toArray) (i := 19) (fuel := 5) rfl HNS.out (by kernel_rfl) (by kernel_rfl) (by kernel_rfl) (fun _ _ _ h => h) (by kernel_rfl) hHeld ?_
            try simp only [Act.put, List.setIfInBounds_toArray, List.set_cons_zero, List.set_cons_succ]
            refine wpAnyH_skipD (l' := (upB 25 21).toArray) (i := 20) (fuel := 4) rfl HNS.out (by kernel_rfl) (by kernel_rfl) (by kernel_rfl) (fun _ _ _ h => h) (by kernel_rfl) hHeld ?_
            try simp only [Act.put, List.setIfInBounds_toArray, List.set_cons_zero, List.set_cons_succ]
            refine wpAnyH_skipD (l' := (upB 25 22).toArray) (i := 21) (fuel := 3) rfl HNS.out (by kernel_rfl) (by kernel_rfl) (by kernel_rfl) (fun _ _ _ h => h) (by kernel_rfl) hHeld ?_
            try simp only [Act.put, List.setIfInBounds_toArray, List.set_cons_zero, List.set_cons_succ]
            refine wpAnyH_takeD (l' := (upB 25 23).toArray) (i := 22) (fuel := 2) (v := ?v2x22) rfl HNS.out (by kernel_rfl) (by kernel_rfl) (by kernel_rfl) (fun _ _ _ h => h) (by kernel_rfl) ?y2x22 hHeld ?r2x22
            case y2x22 => (intro W hSw; go_simp; first | done | with_reducible rfl)
            try simp only [Act.put, List.setIfInBounds_toArray, List.set_cons_zero, List.set_cons_succ]
            refine wpAnyH_takeD (l' := (upB 25 24).toArray) (i := 23) (fuel := 1) (v := ?v2x23) rfl HNS.out (by kernel_rfl) (by kernel_rfl) (by kernel_rfl) (fun _ _ _ h => h) (by kernel_rfl) ?y2x23 hHeld ?r2x23
            case y2x23 => (intro W hSw; go_simp; first | done | with_reducible rfl)
            try simp only [Act.put, List.setIfInBounds_toArray, List.set_cons_zero, List.set_cons_succ]
            refine wpAnyH_takeD (l' := (upB 25 25).toArray) (i := 24) (fuel := 0) (v := ?v2x24) rfl HNS.out (by kernel_rfl) (by kernel_rfl) (by kernel_rfl) (fun _ _ _ h => h) (by kernel_rfl) ?y2x24 hHeld ?r2x24
            case y2x24 => (intro W hSw; go_simp; first | done | with_reducible rfl)
            try simp only [Act.put, List.setIfInBounds_toArray, List.set_cons_zero, List.set_cons_succ]
            refine wpAnyH_done (by kernel_rfl) ?_ _
            go_wp2_with fail
            go_meet
            case rel => exact ⟨by rw [HN.out], HDR.out⟩
        have d1 : (ma != (H.log.length : Int)) = false := by simp [hma]
        have HN := hide (show newB H.log ma mb = (mb != LT) by rw [HNB.out]; by_cases hq : mb = LT <;> simp [hma, hq])
        clear hma
        as_aux_lemma =>
          refine wp_region_heldD (S := fun W => W.cell? ⟨w3.heap.size, 4, none⟩ = some (.slice lo5 H.log.length lc5) ∧ W.cell? ⟨w.heap.size + 1, 4, none⟩ = some (.int .i64 ma) ∧ W.cell? ⟨w.heap.size + 1, 5, none⟩ = some (.int .i64 mb)) (n := 25) (l := (upB 25 0).toArray) (by kernel_rfl) (by kernel_rfl) (by kernel_rfl) (by kernel_rfl) (HKEEP.out _ HDR.out) (fun HNS hHeld => ?_)
          refine wpAnyH_takeD (l' := (upB 25 1).toArray) (i := 0) (fuel := 24) (v := ?v3x0) rfl HNS.out (by kernel_rfl) (by kernel_rfl) (by kernel_rfl) (fun _ _ _ h => h) (by kernel_rfl) ?y3x0 hHeld ?r3x0
          case y3x0 => (intro W hSw; go_simp; first | done | with_reducible rfl)
          try simp only [Act.put, List.setIfInBounds_toArray, List.set_cons_zero, List.set_cons_succ]
          refine wpAnyH_takeD (l' := (upB 25 2).toArray) (i := 1) (fuel := 23) (v := ?v3x1) rfl HNS.out (by kernel_rfl) (by kernel_rfl) (by kernel_rfl) (fun _ _ _ h => h) (by kernel_rfl) ?y3x1 hHeld ?r3x1
          case y3x1 => (intro W hSw; (try dsimp only at hSw); go_simp; first | done | with_reducible rfl)
          try simp only [Act.put, List.setIfInBounds_toArray, List.set_cons_zero, List.set_cons_succ]
          refine wpAnyH_takeD (l' := (upB 25 3).toArray) (i := 2) (fuel := 22) (v := ?v3x2) rfl HNS.out (by kernel_rfl) (by kernel_rfl) (by kernel_rfl) (fun _ _ _ h => h) (by kernel_rfl) ?y3x2 hHeld ?r3x2
          case y3x2 => (intro W hSw; go_simp; first | done | with_reducible rfl)
          try simp only [Act.put, List.setIfInBounds_toArray, List.set_cons_zero, List.set_cons_succ]
          refine wpAnyH_takeD (l' := (upB 25 4).toArray) (i := 3) (fuel := 21) (v := ?v3x3) rfl HNS.out (by kernel_rfl) (by kernel_rfl) (by kernel_rfl) (fun _ _ _ h => h) (by kernel_rfl) ?y3x3 hHeld ?r3x3
          case y3x3 => (intro W hSw; (try dsimp only at hSw); go_simp; first | done | with_reducible rfl)
          try simp only [Act.put, List.setIfInBounds_toArray, List.set_cons_zero, List.set_cons_succ]
          refine wpAnyH_takeD (l' := (upB 25 5).toArray) (i := 4) (fuel := 20) (v := ?v3x4) rfl HNS.out (by kernel_rfl) (by kernel_rfl) (by kernel_rfl) (fun _ _ _ h => h) (by kernel_rfl) ?y3x4 hHeld ?r3x4
          case y3x4 => (intro W hSw; go_simp; first | done | with_reducible rfl)
          try simp only [Act.put, List.setIfInBounds_toArray, List.set_cons_zero, List.set_cons_succ]
          refine wpAnyH_takeD (l' := (upB 25 6).toArray) (i := 5) (fuel := 19) (v := ?v3x5) rfl HNS.out (by kernel_rfl) (by kernel_rfl) (by kernel_rfl) (fun _ _ _ h => h) (by kernel_rfl) ?y3x5 hHeld ?r3x5
          case y3x5 => (intro W hSw; (try dsimp only at hSw); go_simp; first | done | with_reducible rfl)
          try simp only [Act.put, List.setIfInBounds_toArray, List.set_cons_zero, List.set_cons_succ]
          refine wpAnyH_oneD (l' := (upB 25 7).toArray) (i := 6) (fuel := 18) rfl (by kernel_rfl) (by kernel_rfl) (fun Kc hK => ?_)
          go_simp
          go_at_call 53
          refine (HOL.out _ HDR.out).mono ?_
          rintro e w8 ⟨rfl, rfl⟩
          go_wp2_with fail
          refine hK.out _ _ hHeld (fun _ => ?_)
          clear hK Kc
          try simp only [Act.put, List.setIfInBounds_toArray, List.set_cons_zero, List.set_cons_succ]
          refine wpAnyH_takeD (l' := (upB 25 8).toArray) (i := 7) (fuel := 17) (v := ?v3x7) rfl HNS.out (by kernel_rfl) (by kernel_rfl) (by kernel_rfl) (fun _ _ _ h => h) (by kernel_rfl) ?y3x7 hHeld ?r3x7
          case y3x7 => (intro W hSw; go_simp; first | done | with_reducible rfl)
          try simp only [Act.put, List.setIfInBounds_toArray, List.set_cons_zero, List.set_cons_succ]
          refine wpAnyH_takeD (l' := (upB 25 9).toArray) (i := 8) (fuel := 16) (v := ?v3x8) rfl HNS.out (by kernel_rfl) (by kernel_rfl) (by kernel_rfl) (fun _ _ _ h => h) (by kernel_rfl) ?y3x8 hHeld ?r3x8
          case y3x8 => (intro W hSw; go_simp; first | done | with_reducible rfl)
          try simp only [Act.put, List.setIfInBounds_toArray, List.set_cons_zero, List.set_cons_succ]
          refine wpAnyH_takeD (l' := (upB 25 10).toArray) (i := 9) (fuel := 15) (v := ?v3x9) rfl HNS.out (by kernel_rfl) (by kernel_rfl) (by kernel_rfl) (fun _ _ _ h => h) (by kernel_rfl) ?y3x9 hHeld ?r3x9
          case y3x9 => (intro W hSw; go_simp; first | done | with_reducible rfl)
          try simp only [Act.put, List.setIfInBounds_toArray, List.set_cons_zero, List.set_cons_succ]
          refine wpAnyH_takeD (l' := (upB 25 11).toArray) (i := 10) (fuel := 14) (v := ?v3x10) rfl HNS.out (by kernel_rfl) (by kernel_rfl) (by kernel_rfl) (fun _ _ _ h => h) (by kernel_rfl) ?y3x10 hHeld ?r3x10
          case y3x10 => (intro W hSw; (try dsimp only at hSw); go_simp; first | done | with_reducible rfl)
          try simp only [Act.put, List.setIfInBounds_toArray, List.set_cons_zero, List.set_cons_succ]
          refine wpAnyH_takeD (l' := (upB 25 12).toArray) (i := 11) (fuel := 13) (v := ?v3x11) rfl HNS.out (by kernel_rfl) (by kernel_rfl) (by kernel_rfl) (fun _ _ _ h => h) (by kernel_rfl) ?y3x11 hHeld ?r3x11
          case y3x11 => (intro W hSw; go_simp; first | done | with_reducible rfl)
          try simp only [Act.put, List.setIfInBounds_toArray, List.set_cons_zero, List.set_cons_succ]
          refine wpAnyH_takeD (l' := (upB 25 13).toArray) (i := 12) (fuel := 12) (v := ?v3x12) rfl HNS.out (by kernel_rfl) (by kernel_rfl) (by kernel_rfl) (fun _ _ _ h => h) (by kernel_rfl) ?y3x12 hHeld ?r3x12
          case y3x12 => (intro W hSw; (try dsimp only at hSw); go_simp; first | done | with_reducible rfl)
          try simp only [Act.put, List.setIfInBounds_toArray, List.set_cons_zero, List.set_cons_succ]
          refine wpAnyH_takeD (l' := (upB 25 14).toArray) (i := 13) (fuel := 11) (v := ?v3x13) rfl HNS.out (by kernel_rfl) (by kernel_rfl) (by kernel_rfl) (fun _ _ _ h => h) (by kernel_rfl) ?y3x13 hHeld ?r3x13
          case y3x13 => (intro W hSw; go_simp; first | done | with_reducible rfl)
          try simp only [Act.put, List.setIfInBounds_toArray, List.set_cons_zero, List.set_cons_succ]
          refine wpAnyH_takeD (l' := (upB 25 15).toArray) (i := 14) (fuel := 10) (v := ?v3x14) rfl HNS.out (by kernel_rfl) (by kernel_rfl) (by kernel_rfl) (fun _ _ _ h => h) (by kernel_rfl) ?y3x14 hHeld ?r3x14
          case y3x14 => (intro W hSw; go_simp; first | done | with_reducible rfl)
          try simp only [Act.put, List.setIfInBounds_toArray, List.set_cons_zero, List.set_cons_succ]
          refine wpAnyH_takeD (l' := (upB 25 16).toArray) (i := 15) (fuel := 9) (v := ?v3x15) rfl HNS.out (by kernel_rfl) (by kernel_rfl) (by kernel_rfl) (fun _ _ _ h => h) (by kernel_rfl) ?y3x15 hHeld ?r3x15
          case y3x15 => (intro W hSw; go_simp; first | done | with_reducible rfl)
          try simp only [Act.put, List.setIfInBounds_toArray, List.set_cons_zero, List.set_cons_succ]
          refine wpAnyH_takeD (l' := (upB 25 17).toArray) (i := 16) (fuel := 8) (v := ?v3x16) rfl HNS.out (by kernel_rfl) (by kernel_rfl) (by kernel_rfl) (fun _ _ _ h => h) (by kernel_rfl) ?y3x16 hHeld ?r3x16
          case y3x16 => (intro W hSw; go_simp; first | done | with_reducible rfl)
          try simp only [Act.put, List.setIfInBounds_toArray, List.set_cons_zero, List.set_cons_succ]
          refine wpAnyH_takeD (l' := (upB 25 18).toArray) (i := 17) (fuel := 7) (v := ?v3x17) rfl HNS.out (by kernel_rfl) (by kernel_rfl) (by kernel_rfl) (fun _ _ _ h => h) (by kernel_rfl) ?y3x17 hHeld ?r3x17
          case y3x17 => (intro W hSw; (try dsimp only at hSw); go_simp; first | done | with_reducible rfl)
          try simp only [Act.put, List.setIfInBounds_toArray, List.set_cons_zero, List.set_cons_succ]
          refine wpAnyH_takeD (l' := (upB 25 19).toArray) (i := 18) (fuel := 6) (v := ?v3x18) rfl HNS.out (by kernel_rfl) (by kernel_rfl) (by kernel_rfl) (fun _ _ _ h => h) (by kernel_rfl) ?y3x18 hHeld ?r3x18
          case y3x18 => (intro W hSw; go_simp; first | done | with_reducible rfl)
          try simp only [Act.put, List.setIfInBounds_toArray, List.set_cons_zero, List.set_cons_succ]
          refine wpAnyH_takeD (l' := (upB 25 20).toArray) (i := 19) (fuel := 5) (v := ?v3x19) rfl HNS.out (by kernel_rfl) (by kernel_rfl) (by kernel_rfl) (fun _ _ _ h => h) (by kernel_rfl) ?y3x19 hHeld ?r3x19
          case y3x19 => (intro W hSw; (try dsimp only at hSw); go_simp; first | done | with_reducible rfl)
          try simp only [Act.put, List.setIfInBounds_toArray, List.set_cons_zero, List.set_cons_succ]
          refine wpAnyH_oneD (l' := (upB 25 21).toArray) (i := 20) (fuel := 4) rfl (by kernel_rfl) (by kernel_rfl) (fun Kc hK => ?_)
          go_simp
          go_at_call 43
          refine (HLT.out _ HDR.out).mono ?_
          rintro e w8 ⟨rfl, rfl⟩
          go_wp2_with fail
          refine hK.out _ _ hHeld (fun _ => ?_)
          clear hK Kc
          try simp only [Act.put, List.setIfInBounds_toArray, List.set_cons_zero, List.set_cons_succ]
          refine wpAnyH_takeD (l' := (upB 25 22).toArray) (i := 21) (fuel := 3) (v := ?v3x21) rfl HNS.out (by kernel_rfl) (by kernel_rfl) (by kernel_rfl) (fun _ _ _ h => h) (by kernel_rfl) ?y3x21 hHeld ?r3x21
          case y3x21 => (intro W hSw; go_simp; first | done | with_reducible rfl)
          try simp only [Act.put, List.setIfInBounds_toArray, List.set_cons_zero, List.set_cons_succ]
          refine wpAnyH_takeD (l' := (upB 25 23).toArray) (i := 22) (fuel := 2) (v := ?v3x22) rfl HNS.out (by kernel_rfl) (by kernel_rfl) (by kernel_rfl) (fun _ _ _ h => h) (by kernel_rfl) ?y3x22 hHeld ?r3x22
          case y3x22 => (intro W hSw; go_simp; first | done | with_reducible rfl)
          try simp only [Act.put, List.setIfInBounds_toArray, List.set_cons_zero, List.set_cons_succ]
          refine wpAnyH_takeD (l' := (upB 25 24).toArray) (i := 23) (fuel := 1) (v := ?v3x23) rfl HNS.out (by kernel_rfl) (by kernel_rfl) (by kernel_rfl) (fun _ _ _ h => h) (by kernel_rfl) ?y3x23 hHeld ?r3x23
          case y3x23 => (intro W hSw; go_simp; first | done | with_reducible rfl)
          try simp only [Act.put, List.setIfInBounds_toArray, List.set_cons_zero, List.set_cons_succ]
          refine wpAnyH_takeD (l' := (upB 25 25).toArray) (i := 24) (fuel := 0) (v := ?v3x24) rfl HNS.out (by kernel_rfl) (by kernel_rfl) (by kernel_rfl) (fun _ _ _ h => h) (by kernel_rfl) ?y3x24 hHeld ?r3x24
          case y3x24 => (intro W hSw; go_simp; first | done | with_reducible rfl)
          try simp only [Act.put, List.setIfInBounds_toArray, List.set_cons_zero, List.set_cons_succ]
          refine wpAnyH_done (by kernel_rfl) ?_ _
          go_wp2_with fail
          go_meet
          case rel => exact ⟨by rw [HN.out], HDR.out⟩
      case rest =>
        as_aux_lemma =>
          obtain ⟨rfl, hb8⟩ := hcut
          have HD8 := hide (HD7.out.below hb8)
          have HM8 := hide (HM7.out.later hb8)
          have HR8 := hide (HR7.out.later hb8)
          have HQ8 := hide (HQ7.out.later hb8)
          have HF8 := hide (HF7.out.later hb8)
          have HA8 := hide (HA7.out.trans (hb8.mono HA7.out.size))
          have HK8 := hide (HK7.out.later hb8)
          clear HK7 HD7 HM7 HR7 HQ7 HF7 HA7 HOL HLT HKEEP HDR HY7 yl ml hb8
          have hY8 := HD8.out.blk
          unfold ndA at hY8
          have HY8 := hide hY8
          have y2 := hY8.cell 2
          have y3 := hY8.cell 3
          have yl := hY8.lt
          have m1 := HM8.out.cell 1
          have m3 := HM8.out.cell 3
          have ml := HM8.out.lt
          simp at y2 y3 m1 m3
          clear hY8
          have hvw : IntKind.i64.wrap (H.vote - 1) = H.vote - 1 := by
            have := HFH.out.v0
            have := HFH.out.vn
            have := HFH.out.n7
            rw [IntKind.wrap_i64]
            omega
          have hfw : IntKind.i64.wrap (fr + 1) = fr + 1 := by
            have q1 := HFM.out.f0
            have q2 := HFM.out.fn
            have q3 := HFX.out.n7
            simp only at q1 q2 q3
            rw [IntKind.wrap_i64]
            omega
          have HGD := hide (give_doc (m := ⟨ki, fr, dt, mt, ma, mb, mc, es, ok⟩) HFH.out HFM.out.a0 HFM.out.a1 HFM.out.b0 HFM.out.b1)
          dsimp only at HGD
          obtain ⟨w8, hw8⟩ : ∃ w8, w8 = wc := ⟨_, rfl⟩
          subst hw8
          try dsimp only [Act.put]
          go_upto_region 16 with fail
          go_cut [106] (fun g wc => g = .bool (giveB H ⟨ki, fr, dt, mt, ma, mb, mc, es, ok⟩) ∧ w8 = wc)
          case first =>
            by_cases g1 : mt = H.term
            case neg =>
              have v1 : (mt == H.term) = false := beq_eq_false_iff_ne.2 g1
              have HG := hide (show giveB H ⟨ki, fr, dt, mt, ma, mb, mc, es, ok⟩ = false by rw [HGD.out]; simp [g1])
              clear g1
              as_aux_lemma =>
                go_wp2_with fail
                go_meet
                case rel => exact ⟨by rw [HG.out], rfl⟩
            have v1 : (mt == H.term) = true := by simp [g1]
            by_cases g2 : H.vote = 0
            case pos =>
              have v2 : (H.vote == 0) = true := by simp [g2]
              have HG := hide (show giveB H ⟨ki, fr, dt, mt, ma, mb, mc, es, ok⟩ = !newB H.log ma mb by rw [HGD.out]; simp [g1, g2])
              clear g1 g2
              as_aux_lemma =>
                go_wp2_with fail
                go_meet
                case rel => exact ⟨by rw [HG.out], rfl⟩
            have v2 : (H.vote == 0) = false := beq_eq_false_iff_ne.2 g2
            by_cases g3 : H.vote = fr + 1
            case pos =>
              have v3 : (H.vote - 1 == fr) = true := by simp [g3]
              have HG := hide (show giveB H ⟨ki, fr, dt, mt, ma, mb, mc, es, ok⟩ = !newB H.log ma mb by rw [HGD.out]; simp [g1, g3])
              clear g1 g2 g3
              as_aux_lemma =>
                go_wp2_with fail
                go_meet
                case rel => exact ⟨by rw [HG.out], rfl⟩
            have v3 : (H.vote - 1 == fr) = false := beq_eq_false_iff_ne.2 (by omega)
            have HG := hide (show giveB H ⟨ki, fr, dt, mt, ma, mb, mc, es, ok⟩ = false by rw [HGD.out]; simp [g2, g3])
            clear g1 g2 g3
            as_aux_lemma =>
              go_wp2_with fail
              go_meet
              case rel => exact ⟨by rw [HG.out], rfl⟩
          case rest =>
            as_aux_lemma =>
              obtain ⟨rfl, rfl⟩ := hcut
              have HTN1 : Hid (takN ⟨n, id, te, vo, lo, ro, co, vs, ns, hs⟩ ⟨ki, fr, dt, mt, ma, mb, mc, es, ok⟩ = if giveB H ⟨ki, fr, dt, mt, ma, mb, mc, es, ok⟩ = true then { H with vote := fr + 1 } else H) := hide (HTN.out.trans HTK.out)
              have HTM1 : Hid (takM ⟨n, id, te, vo, lo, ro, co, vs, ns, hs⟩ ⟨ki, fr, dt, mt, ma, mb, mc, es, ok⟩ = [⟨2, id, fr, H.term, 0, 0, 0, [], giveB H ⟨ki, fr, dt, mt, ma, mb, mc, es, ok⟩⟩]) := hide (HTM.out.trans (HSD.out.trans (by unfold t1M ansM; rw [HEF.out.2.1])))
              have HKM := hide (show Blk _ wk.heap.size 44 (mlA ⟨2, id, fr, H.term, 0, 0, 0, [], false⟩ (.slice none 0 0)) from HK8.out)
              clear HK8 y2 y3 yl m1 m3 ml HTN HTM HTK HSD HGD
              go_upto_if 106 with fail
              generalize giveB H ⟨ki, fr, dt, mt, ma, mb, mc, es, ok⟩ = G at HTN1 HTM1 ⊢
              cases G
              case true =>
                have HY8 := hide HD8.out.blk
                unfold ndA at HY8
                unfold mlA at HKM
                have m1 := HM8.out.cell 1
                have ml := HM8.out.lt
                simp at m1
                go_upto_region 19 with (first
                  | (refine wpList_store_int (k := 3) rfl rfl rfl rfl HY8.out rfl Try.sizeIntR ?_; intro w10 hY10 hg10; have HD10 := hide (HD8.out.wrote (y := { H with vote := fr + 1 }) hg10 hY10 rfl (.inl ⟨rfl, rfl⟩) (.inl ⟨rfl, rfl⟩) (.inl ⟨rfl, rfl⟩)).1; have HK10 := hide (HKM.out.grown hg10 (by simp; have := HYK.out; omega)); have HM10 := hide (HM8.out.grown hg10 (by simp; have := HS1.out; have := HLY.out; have := HYK.out; omega)); have HR10 := hide (HR8.out.grown hg10 (by simp; have := HS1.out; have := HLY.out; have := HYK.out; omega)); have HQ10 := hide (HQ8.out.grown hg10 (by simp; have := HS1.out; have := HLY.out; have := HYK.out; omega)); have HF10 := hide (HF8.out.grown hg10 (by simp; have := HS1.out; have := HLY.out; have := HYK.out; omega)); have HA10 := hide (below_grownO HA8.out hg10 (fun k hk => by cases hk; have := HS1.out; have := HLY.out; have := HYK.out; omega) HA8.out.size); clear hY10 hg10)
                  | (refine wpList_store_bool (k := 8) rfl rfl rfl rfl HK10.out rfl Try.sizeBoolR ?_; intro w11 hK11 hg11; have HK11 := hide (show Blk w11 wk.heap.size 44 (mlA ⟨2, id, fr, H.term, 0, 0, 0, [], true⟩ (.slice none 0 0)) from hK11); have HD11 := hide (HD10.out.off0 hg11 HLK.out); have HM11 := hide (HM10.out.grown hg11 (by simp; have := HS1.out; have := HLY.out; have := HYK.out; omega)); have HR11 := hide (HR10.out.grown hg11 (by simp; have := HS1.out; have := HLY.out; have := HYK.out; omega)); have HQ11 := hide (HQ10.out.grown hg11 (by simp; have := HS1.out; have := HLY.out; have := HYK.out; omega)); have HF11 := hide (HF10.out.grown hg11 (by simp; have := HS1.out; have := HLY.out; have := HYK.out; omega)); have HA11 := hide (below_grownO HA10.out hg11 (fun k hk => by cases hk; have := HS1.out; have := HLY.out; have := HYK.out; omega) HA10.out.size); clear hK11 hg11))
                have HN_ : Hid (takN ⟨n, id, te, vo, lo, ro, co, vs, ns, hs⟩ ⟨ki, fr, dt, mt, ma, mb, mc, es, ok⟩ = { H with vote := fr + 1 }) := HTN1
                have HM_ : Hid (takM ⟨n, id, te, vo, lo, ro, co, vs, ns, hs⟩ ⟨ki, fr, dt, mt, ma, mb, mc, es, ok⟩ = [⟨2, id, fr, H.term, 0, 0, 0, [], true⟩]) := HTM1
                clear HTN1 HTM1 HY8 HKM HD8 HD10 HK10 m1 ml
                try dsimp only [Act.put]
                as_aux_lemma =>
                  refine wp_ret7 (dN := _) (dM := _) (dF := _) HD11.out.blk HK11.out HF11.out HR11.out HQ11.out (by have := HS1.out; have := HLY.out; have := HYK.out; omega) (by have := HS1.out; have := HLY.out; have := HYK.out; omega) (by have := HS1.out; have := HLY.out; have := HYK.out; omega) (by have := HS1.out; have := HLY.out; have := HYK.out; omega) (by have := HS1.out; have := HLY.out; have := HYK.out; omega) (by have := HS1.out; have := HLY.out; have := HYK.out; omega) (by have := HS1.out; have := HLY.out; have := HYK.out; omega) (by kernel_rfl) (by kernel_rfl) rfl ⟨by kernel_rfl, by kernel_rfl, by kernel_rfl⟩ ⟨by kernel_rfl, by kernel_rfl, by kernel_rfl⟩ (by kernel_rfl) (by kernel_rfl) (by kernel_rfl) (by kernel_rfl) (by kernel_rfl) (by kernel_rfl) ⟨⟨rfl, rfl, rfl⟩, rfl, rfl, rfl, rfl⟩ ⟨⟨rfl, rfl, rfl⟩, rfl, rfl, rfl, rfl⟩ (fun _ _ _ _ h => h) (fun _ _ _ _ h => h) (fun _ _ _ _ h => h) (by kernel_rfl) (by kernel_rfl) (by kernel_rfl) (by kernel_rfl) (by kernel_rfl) (by kernel_rfl) (by kernel_rfl) (by kernel_rfl) ⟨⟨rfl, rfl⟩, ⟨by decide, by decide⟩, ⟨by decide, by decide⟩, by decide, by decide⟩ (by kernel_rfl) (by kernel_rfl) (by kernel_rfl) Try.underlying25 rfl Try.sizeNode Try.underlying44 rfl Try.sizeMail Try.underlying30 rfl Try.sizeFaultR Try.underlying32 (n := 9) (z := .agg #[.int .i64 0, .int .i64 0, .int .i64 0, .int .i64 0, .int .i64 0, .int .i64 0, .int .i64 0, .slice none 0 0, .bool false]) (by kernel_rfl) (by decide) (by decide) (by kernel_rfl) rfl rfl rfl rfl ⟨rfl, rfl, rfl⟩ (by kernel_rfl) ?_
                  intro k wm w9 a9 hka hkv hgm hg9 hR9 hQ9 hk hK9
                  have HR9 := hide hR9
                  have HQ9 := hide hQ9
                  have HD9 := hide (HD11.out.ret hgm hg9 (HLB5.out _ (by have := HS1.out; omega)) (HLB5.out _ (by have := HS1.out; omega)))
                  have HA9 := hide (below_ret HA11.out hgm hg9 (by omega) (by omega) HA11.out.size)
                  have HK9 := hide hK9
                  clear hK9
                  clear hR9 hQ9 hgm hg9
                  unfold Exit.then
                  rename_i hk9
                  refine hk9 _ _ (wp_ret ?_)
                  clear hk9
                  refine bodyPost_ret (results3_ctc (v2 := .slice (some ⟨k, 0, none⟩) 1 1) Try.results25 ((hka.tmps _ (by kernel_rfl)).trans (by kernel_rfl)) hkv ((hka.tmps _ (by kernel_rfl)).trans (by kernel_rfl)) (run_loadVar_blk HR9.out Try.underlying25 rfl Try.sizeNode) (run_loadVar_blk HQ9.out Try.underlying30 rfl Try.sizeFaultR)) (hka.defers.trans rfl) ?_
                  exact TnTo.fin HN_.out HM_.out HTF.out HD9.out.rd (RdM.oneB (m := ⟨2, id, fr, H.term, 0, 0, 0, [], true⟩) rfl HK9.out) HA9.out
              case false =>
                have HK12 := HKM
                have HD12 := HD8
                have HF12 := HF8
                have HR12 := HR8
                have HQ12 := HQ8
                have HA12 := HA8
                have HN_ : Hid (takN ⟨n, id, te, vo, lo, ro, co, vs, ns, hs⟩ ⟨ki, fr, dt, mt, ma, mb, mc, es, ok⟩ = H) := HTN1
                have HM_ : Hid (takM ⟨n, id, te, vo, lo, ro, co, vs, ns, hs⟩ ⟨ki, fr, dt, mt, ma, mb, mc, es, ok⟩ = [⟨2, id, fr, H.term, 0, 0, 0, [], false⟩]) := HTM1
                clear HTN1 HTM1 HKM HD8
                go_upto_region 19 with fail
                as_aux_lemma =>
                  refine wp_ret7 (dN := _) (dM := _) (dF := _) HD12.out.blk HK12.out HF12.out HR12.out HQ12.out (by have := HS1.out; have := HLY.out; have := HYK.out; omega) (by have := HS1.out; have := HLY.out; have := HYK.out; omega) (by have := HS1.out; have := HLY.out; have := HYK.out; omega) (by have := HS1.out; have := HLY.out; have := HYK.out; omega) (by have := HS1.out; have := HLY.out; have := HYK.out; omega) (by have := HS1.out; have := HLY.out; have := HYK.out; omega) (by have := HS1.out; have := HLY.out; have := HYK.out; omega) (by kernel_rfl) (by kernel_rfl) rfl ⟨by kernel_rfl, by kernel_rfl, by kernel_rfl⟩ ⟨by kernel_rfl, by kernel_rfl, by kernel_rfl⟩ (by kernel_rfl) (by kernel_rfl) (by kernel_rfl) (by kernel_rfl) (by kernel_rfl) (by kernel_rfl) ⟨⟨rfl, rfl, rfl⟩, rfl, rfl, rfl, rfl⟩ ⟨⟨rfl, rfl, rfl⟩, rfl, rfl, rfl, rfl⟩ (fun _ _ _ _ h => h) (fun _ _ _ _ h => h) (fun _ _ _ _ h => h) (by kernel_rfl) (by kernel_rfl) (by kernel_rfl) (by kernel_rfl) (by kernel_rfl) (by kernel_rfl) (by kernel_rfl) (by kernel_rfl) ⟨⟨rfl, rfl⟩, ⟨by decide, by decide⟩, ⟨by decide, by decide⟩, by decide, by decide⟩ (by kernel_rfl) (by kernel_rfl) (by kernel_rfl) Try.underlying25 rfl Try.sizeNode Try.underlying44 rfl Try.sizeMail Try.underlying30 rfl Try.sizeFaultR Try.underlying32 (n := 9) (z := .agg #[.int .i64 0, .int .i64 0, .int .i64 0, .int .i64 0, .int .i64 0, .int .i64 0, .int .i64 0, .slice none 0 0, .bool false]) (by kernel_rfl) (by decide) (by decide) (by kernel_rfl) rfl rfl rfl rfl ⟨rfl, rfl, rfl⟩ (by kernel_rfl) ?_
                  intro k wm w9 a9 hka hkv hgm hg9 hR9 hQ9 hk hK9
                  have HR9 := hide hR9
                  have HQ9 := hide hQ9
                  have HD9 := hide (HD12.out.ret hgm hg9 (HLB5.out _ (by have := HS1.out; omega)) (HLB5.out _ (by have := HS1.out; omega)))
                  have HA9 := hide (below_ret HA12.out hgm hg9 (by omega) (by omega) HA12.out.size)
                  have HK9 := hide hK9
                  clear hK9
                  clear hR9 hQ9 hgm hg9
                  unfold Exit.then
                  rename_i hk9
                  refine hk9 _ _ (wp_ret ?_)
                  clear hk9
                  refine bodyPost_ret (results3_ctc (v2 := .slice (some ⟨k, 0, none⟩) 1 1) Try.results25 ((hka.tmps _ (by kernel_rfl)).trans (by kernel_rfl)) hkv ((hka.tmps _ (by kernel_rfl)).trans (by kernel_rfl)) (run_loadVar_blk HR9.out Try.underlying25 rfl Try.sizeNode) (run_loadVar_blk HQ9.out Try.underlying30 rfl Try.sizeFaultR)) (hka.defers.trans rfl) ?_
                  exact TnTo.fin HN_.out HM_.out HTF.out HD9.out.rd (RdM.oneB (m := ⟨2, id, fr, H.term, 0, 0, 0, [], false⟩) rfl HK9.out) HA9.out

end Go.Proofs.Ytbffmdhogehfnaa
