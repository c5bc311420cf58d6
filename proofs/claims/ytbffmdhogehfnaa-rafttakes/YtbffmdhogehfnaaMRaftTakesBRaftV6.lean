/-
  Texts joined: RaftV6.
-/
import Derived.Test.YtbffmdhogehfnaaMRaftTakes13
/-
  The walk over the document's TakeNode: an answer to one that leads. (Written by rv2.py and those that take it up.)
-/
namespace Go.Proofs.Ytbffmdhogehfnaa
open Go.RowKit Go.Maps
set_option linter.unusedVariables false

theorem enters_Counted4 (args : Array Value) (W : World) : (callFunc 48 args).run Try.prog W = .ok (.enter 48 args) W := by kernel_rfl

/-- An answer that counts for nothing. -/
def t4B (x : Nd) (m : Ml) : Bool := decide (x.role ≠ 2) || decide (m.term ≠ x.term)

theorem t4_true {x : Nd} {m : Ml} (h : t4B x m = true) : t4N x m = x := by
  have hc : x.role ≠ 2 ∨ m.term ≠ x.term := by
    unfold t4B at h
    simpa using h
  exact if_pos hc

theorem t4_false {x : Nd} {m : Ml} (h : t4B x m = false) : x.role = 2 ∧ t4N x m = if m.ok = false then { x with next := x.next.set m.frm.toNat (max (min (gI x.next m.frm - 1) (m.a + 1)) (gI x.hav m.frm + 1)) }
  else ({ x with hav := x.hav.set m.frm.toNat (max (gI x.hav m.frm) (min m.a x.log.length)), next := x.next.set m.frm.toNat (max (gI x.hav m.frm) (min m.a x.log.length) + 1) } : Nd).count := by
  have hc : ¬ (x.role ≠ 2 ∨ m.term ≠ x.term) := by
    unfold t4B at h
    simpa using h
  exact ⟨by by_cases q : x.role = 2; exact q; exact absurd (.inl q) hc, if_neg hc⟩

theorem set_selfI {l : List Int} {k : Nat} {u : Int} (h : l[k]? = some u) : l.set k u = l := by
  apply List.ext_getElem?
  intro i
  rw [List.getElem?_set]
  by_cases hi : k = i
  · subst hi
    rw [if_pos rfl, if_pos (List.getElem?_eq_some_iff.1 h).1, h]
  · rw [if_neg hi]

theorem gI_of {l : List Int} {I : Nat} {u : Int} (h : l[I]? = some u) : gI l (I : Int) = u := by
  unfold gI
  rw [Int.toNat_natCast, h]
  rfl

set_option maxRecDepth 100000 in
set_option maxHeartbeats 16000000 in
theorem TakeNode_4 (x : Nd) (lv vv nv hv : Value) (m : Ml) (ev : Value) (w : World) (hx : RdNd w x lv vv nv hv) (he : RdG eE w ev m.ents) (hok : (takF x m).1 = 0) (hk : m.kind = 4) :
    Calls Try.prog 25 #[ndV x lv vv nv hv, mlV m ev] w (TnTo x m w) := by
  obtain ⟨hfx, hfm⟩ := takF_ok hok
  have HFX := hide hfx
  have HFM := hide hfm
  have htf : takF x m = (0, 0) := by
    have h0 := takF_z x m
    have h1 := h0 hok
    exact h1
  have HTF := hide htf
  have HTN : Hid (takN x m = x.take m) := hide (if_pos hok)
  have HTM : Hid (takM x m = x.sends m) := hide (if_pos hok)
  have hck := chkN_of hfx
  have HMF := hide (show mfB x m = true by
    have h0 := takF_mf x m
    rw [htf, hck, if_neg (by simp)] at h0
    cases hb : mfB x m
    · rw [hb] at h0; simp at h0
    · rfl)
  have HMC := hide (fun W (h : Below w.heap.size w W) => MailFine_any x lv vv nv hv m ev W (hx.below h) (he.below h))
  rw [HMF.out] at HMC
  obtain ⟨sm1, sm2, sm3, sm4⟩ := hfx.small
  have HCP := hide (fun W (h : Below w.heap.size w W) => CopyNode_any x lv vv nv hv W (hx.below h) (by omega) (by omega) (by omega) (by omega))
  have HFO := hide (fun W (h : Below w.heap.size w W) => Follower_any x lv vv nv hv W (hx.below h) (by omega))
  have HKI := hide hk
  have HCK := hide hck
  clear hok hck htf hfx hfm hk sm1 sm2 sm3 sm4
  have HX := hide hx
  have HEV := hide he
  obtain ⟨n, id, te, vo, lo, ro, co, vs, ns, hs⟩ := x
  obtain ⟨h1, h2, h3, h4⟩ := hx
  simp only at h1 h2 h3 h4
  obtain ⟨ao, cap, rfl, hc1, hc2⟩ := h1.shape
  obtain ⟨bo, cap2, rfl, hd1, hd2⟩ := h2.shape
  obtain ⟨no, cap3, rfl, _, _⟩ := h3.shape
  obtain ⟨ho, cap4, rfl, _, _⟩ := h4.shape
  obtain ⟨ki, fr, dt, mt, ma, mb, mc, es, ok⟩ := m
  simp only at he
  obtain ⟨eo, ec, rfl, he1, he2⟩ := he.shape
  obtain ⟨hP, hM, hR, hQ, hA, hS⟩ := four_at w #[.int .i64 n, .int .i64 id, .int .i64 te, .int .i64 vo, .slice ao lo.length cap, .int .i64 ro, .int .i64 co, .slice bo vs.length cap2, .slice no ns.length cap3, .slice ho hs.length cap4] #[.int .i64 ki, .int .i64 fr, .int .i64 dt, .int .i64 mt, .int .i64 ma, .int .i64 mb, .int .i64 mc, .slice eo es.length ec, .bool ok] #[.int .i64 0, .int .i64 0, .int .i64 0, .int .i64 0, .slice none 0 0, .int .i64 0, .int .i64 0, .slice none 0 0, .slice none 0 0, .slice none 0 0] #[.int .i64 0, .int .i64 0] 25 44 25 30
  have HC1 := hide (NodeFault_any ⟨n, id, te, vo, lo, ro, co, vs, ns, hs⟩ _ _ _ _ _ (HX.out.below hA))
  rw [HCK.out] at HC1
  unfold ndV ndA mlV mlA at HMC
  unfold ndV ndA at HCP HFO
  dsimp only [Nd.follow] at HFO
  dsimp only at HCP HKI HFM
  obtain ⟨p, hp0⟩ : ∃ p : Int, p = 0 := ⟨_, rfl⟩
  obtain ⟨q, hq0⟩ : ∃ q : Int, q = 0 := ⟨_, rfl⟩
  unfold ndV ndA flt at HC1
  unfold ndV ndA mlV mlA
  have HP := hide hP
  have HM := hide hM
  have HR := hide hR
  have HQ := hide hQ
  have HA := hide hA
  have HS := hide hS
  clear h1 h2 h3 h4 he hP hM hR hQ hA hS
  go_enter Try.func25, Try.ntmps25
  go_wp2_with (refine wpList_load_blk HP.out Try.underlying25 rfl Try.sizeNode rfl rfl rfl ?_)
  refine HC1.out.mono ?_
  rintro e w1 ⟨rfl, hb1⟩
  have hN := below_allocG w1 (.cells #[.int .i64 0, .int .i64 0] 30)
  have HP1 := hide ((HP.out.later hb1).later hN)
  have HM1 := hide ((HM.out.later hb1).later hN)
  have HR1 := hide ((HR.out.later hb1).later hN)
  have HQ1 := hide ((HQ.out.later hb1).later hN)
  have hAA := HA.out.trans (hb1.mono HA.out.size)
  have HA1 := hide (hAA.trans (hN.mono hAA.size))
  have HS1 := hide (show w.heap.size + 4 ≤ w1.heap.size by have := hb1.size; have := HS.out; omega)
  have HF1 := hide (Blk.new w1 30 #[.int .i64 0, .int .i64 0])
  have HL1 := hide (show w1.heap.size < (w1.alloc (.cells #[.int .i64 0, .int .i64 0] 30)).heap.size by simp)
  have hrq : w.heap.size + 1 + 1 ≠ w.heap.size + 1 + 1 + 1 := by omega
  have hqr : w.heap.size + 1 + 1 + 1 ≠ w.heap.size + 1 + 1 := by omega
  clear hb1 hN hAA HC1 HP HM HR HQ HA HS
  have kd1 : (ki == 1) = false := beq_eq_false_iff_ne.2 (by rw [HKI.out]; decide)
  have kd2 : (ki == 2) = false := beq_eq_false_iff_ne.2 (by rw [HKI.out]; decide)
  have kd3 : (ki == 3) = false := beq_eq_false_iff_ne.2 (by rw [HKI.out]; decide)
  clear hp0 hq0 p q
  have HMC1 := hide (HMC.out _ HA1.out)
  clear HMC
  go_upto_region 2 with fail
  generalize hWW : (w1.alloc (.cells #[.int .i64 0, .int .i64 0] 30)) = W at HP1 HM1 HR1 HQ1 HA1 HF1 HMC1 HL1 ⊢
  clear hWW
  have f0 := HF1.out.cell 0
  simp at f0
  go_upto_region 4 with (first
    | (refine wpList_load_blkW HP1.out Try.underlying25 rfl Try.sizeNode rfl rfl rfl ?_)
    | (refine wpList_load_blkW HM1.out Try.underlying44 rfl Try.sizeMail rfl rfl rfl ?_)
    | (go_at_call 52; refine HMC1.out.mono ?_; rintro e w2 ⟨rfl, hb2⟩; have HP2 := hide (HP1.out.later hb2); have HM2 := hide (HM1.out.later hb2); have HR2 := hide (HR1.out.later hb2); have HQ2 := hide (HQ1.out.later hb2); have HF2 := hide (HF1.out.later hb2); have HA2 := hide (HA1.out.trans (hb2.mono HA1.out.size)); have hz2 := hb2.size; have HL2 := hide (Nat.lt_of_lt_of_le HL1.out hb2.size); clear hb2 HP1 HM1 HR1 HQ1 HF1 HA1 HL1))
  clear f0 HMC1
  have f0 := HF2.out.cell 0
  simp at f0
  have HCP2 := hide (HCP.out _ HA2.out)
  clear HCP
  go_wp2_with (refine wpList_load_blk HP2.out Try.underlying25 rfl Try.sizeNode rfl rfl rfl ?_)
  refine HCP2.out.mono ?_
  rintro e w3 ⟨lab, lv2, vv2, nv2, hv2, rfl, hnw, hlab, hb3⟩
  obtain ⟨lo2, lc2, hs1⟩ := owns_shapeK hnw.log.1
  obtain ⟨vo2, vc2, hs2⟩ := owns_shapeK hnw.vot.1
  obtain ⟨no2, nc2, hs3⟩ := owns_shapeK hnw.nxt.1
  obtain ⟨ho2, hc2', hs4⟩ := owns_shapeK hnw.hav.1
  subst hs1 hs2 hs3 hs4
  have HD0 := hide hnw.layD
  unfold ndA at HD0
  have hNB := below_allocG w3 (.cells #[.int .i64 n, .int .i64 id, .int .i64 te, .int .i64 vo, .slice lo2 lo.length lc2, .int .i64 ro, .int .i64 co, .slice vo2 vs.length vc2, .slice no2 ns.length nc2, .slice ho2 hs.length hc2'] 25)
  have hbB := hb3.trans (hNB.mono hb3.size)
  have HP3 := hide (HP2.out.later hbB)
  have HM3 := hide (HM2.out.later hbB)
  have HR3 := hide (HR2.out.later hbB)
  have HQ3 := hide (HQ2.out.later hbB)
  have HF3 := hide (HF2.out.later hbB)
  have HA3 := hide (HA2.out.trans (hbB.mono HA2.out.size))
  have HLY := hide (show w1.heap.size < w3.heap.size from Nat.lt_of_lt_of_le HL2.out hb3.size)
  have HLB := hide (show ∀ g, g ≤ w1.heap.size → labTo lab (some w3.heap.size) 5 g = 0 from fun g hg => by
    unfold labTo
    rw [if_neg (fun q => by simp at q; have := HLY.out; omega)]
    exact hlab g (by have := HL2.out; omega))
  have HYS := hide (show w3.heap.size < (w3.alloc (.cells #[.int .i64 n, .int .i64 id, .int .i64 te, .int .i64 vo, .slice lo2 lo.length lc2, .int .i64 ro, .int .i64 co, .slice vo2 vs.length vc2, .slice no2 ns.length nc2, .slice ho2 hs.length hc2'] 25)).heap.size by simp)
  clear hnw hlab hb3 hNB hbB HP2 HM2 HR2 HQ2 HF2 HA2 HCP2 f0 HL2
  dsimp only at HD0 ⊢
  go_upto_region 7 with fail
  generalize hWB : (w3.alloc (.cells #[.int .i64 n, .int .i64 id, .int .i64 te, .int .i64 vo, .slice lo2 lo.length lc2, .int .i64 ro, .int .i64 co, .slice vo2 vs.length vc2, .slice no2 ns.length nc2, .slice ho2 hs.length hc2'] 25)) = WB at HD0 HP3 HM3 HR3 HQ3 HF3 HA3 HYS ⊢
  clear hWB
  have p1 := HP3.out.cell 1
  have p2 := HP3.out.cell 2
  have m3 := HM3.out.cell 3
  have pl := HP3.out.lt
  have ml := HM3.out.lt
  simp at p1 p2 m3
  go_upto_if 42 with fail
  generalize hTB : decide (te < mt) = TB
  have HTB := hide hTB
  clear hTB
  go_cut [8] (fun yv wc => yv = .pointer (some ⟨w3.heap.size, 0, none⟩) ∧ ∃ lab lv5 vv5 nv5 hv5, Dm wc lab w3.heap.size (Nd.hear ⟨n, id, te, vo, lo, ro, co, vs, ns, hs⟩ mt) lv5 vv5 nv5 hv5 ∧ (∀ g, g ≤ w1.heap.size → lab g = 0) ∧ Blk wc (w.heap.size) 25 #[.int .i64 n, .int .i64 id, .int .i64 te, .int .i64 vo, .slice ao lo.length cap, .int .i64 ro, .int .i64 co, .slice bo vs.length cap2, .slice no ns.length cap3, .slice ho hs.length cap4] ∧ Blk wc (w.heap.size + 1) 44 #[.int .i64 ki, .int .i64 fr, .int .i64 dt, .int .i64 mt, .int .i64 ma, .int .i64 mb, .int .i64 mc, .slice eo es.length ec, .bool ok] ∧ Blk wc (w.heap.size + 1 + 1) 25 #[.int .i64 0, .int .i64 0, .int .i64 0, .int .i64 0, .slice none 0 0, .int .i64 0, .int .i64 0, .slice none 0 0, .slice none 0 0, .slice none 0 0] ∧ Blk wc (w.heap.size + 1 + 1 + 1) 30 #[.int .i64 0, .int .i64 0] ∧ Blk wc w1.heap.size 30 #[.int .i64 0, .int .i64 0] ∧ Below w.heap.size w wc)
  case first =>
    as_aux_lemma =>
      cases TB
      case false =>
        have htm := of_decide_eq_false HTB.out
        have HHE := hide (show Nd.hear ⟨n, id, te, vo, lo, ro, co, vs, ns, hs⟩ mt = ⟨n, id, te, vo, lo, ro, co, vs, ns, hs⟩ from if_neg htm)
        clear htm
        go_wp2_with fail
        go_meet
        case rel => exact ⟨rfl, _, _, _, _, _, by rw [HHE.out]; exact HD0.out, HLB.out, HP3.out, HM3.out, HR3.out, HQ3.out, HF3.out, HA3.out⟩
      have htm := of_decide_eq_true HTB.out
      have HHE := hide (show Nd.hear ⟨n, id, te, vo, lo, ro, co, vs, ns, hs⟩ mt = ⟨n, id, mt, 0, lo, 0, co, [], [], []⟩ from if_pos htm)
      clear htm
      have HFO3 := hide (HFO.out _ HA3.out)
      have HY3 := hide HD0.out.blk
      unfold ndA at HY3
      clear HFO
      go_upto_region 9 with (first
        | (refine wpList_load_blk HP3.out Try.underlying25 rfl Try.sizeNode rfl rfl rfl ?_)
        | (go_at_call 46; refine HFO3.out.mono ?_; rintro e w4 ⟨lv6, rfl, how6, hb4⟩; obtain ⟨lo6, lc6, hs6⟩ := owns_shapeK how6; subst hs6; have HP4 := hide (HP3.out.later hb4); have HM4 := hide (HM3.out.later hb4); have HR4 := hide (HR3.out.later hb4); have HQ4 := hide (HQ3.out.later hb4); have HF4 := hide (HF3.out.later hb4); have HY4 := hide (HY3.out.later hb4); have HA4 := hide (HA3.out.trans (hb4.mono HA3.out.size)); have HO4 := hide how6; have hz4 := hb4.size; clear hb4 how6)
        | (refine wpList_store_blk rfl rfl rfl rfl HY4.out rfl Try.sizeNode rfl ?_; intro w5 hY5 hg5; have HY5 := hide hY5; have hne := HLY.out; have HP5 := hide (HP4.out.grown hg5 (by simp; have := HS1.out; omega)); have HM5 := hide (HM4.out.grown hg5 (by simp; have := HS1.out; omega)); have HR5 := hide (HR4.out.grown hg5 (by simp; have := HS1.out; omega)); have HQ5 := hide (HQ4.out.grown hg5 (by simp; have := HS1.out; omega)); have HF5 := hide (HF4.out.grown hg5 (by simp; omega)); have HA5 := hide (below_grownO HA4.out hg5 (fun k hk => by cases hk; have := HS1.out; omega) HA4.out.size); have HO5 := hide (owns_grownO HO4.out hg5 (.inr (fun q => by have := (HO4.out.lt _ q).1; have := HYS.out; omega))); clear hY5 hg5))
      clear p1 p2 m3 pl ml HP3 HM3 HR3 HQ3 HF3 HA3 HY3 HFO3 HP4 HM4 HR4 HQ4 HF4 HA4 HO4 HY4 HD0 HLB
      have m3 := HM5.out.cell 3
      have ml := HM5.out.lt
      simp at m3
      go_upto_region 11 with (first
        | (refine wpList_store_int (k := 2) rfl rfl rfl rfl HY5.out rfl Try.sizeIntR ?_; intro w6 hY6 hg6; have HY6 := hide hY6; have HP6 := hide (HP5.out.grown hg6 (by simp; have := HS1.out; omega)); have HM6 := hide (HM5.out.grown hg6 (by simp; have := HS1.out; omega)); have HR6 := hide (HR5.out.grown hg6 (by simp; have := HS1.out; omega)); have HQ6 := hide (HQ5.out.grown hg6 (by simp; have := HS1.out; omega)); have HF6 := hide (HF5.out.grown hg6 (by simp; omega)); have HA6 := hide (below_grownO HA5.out hg6 (fun k hk => by cases hk; have := HS1.out; omega) HA5.out.size); have HO6 := hide (owns_grownO HO5.out hg6 (.inr (fun q => by have := (HO5.out.lt _ q).1; have := HYS.out; omega))); clear hY6 hg6)
        | (refine wpList_store_int (k := 3) rfl rfl rfl rfl HY6.out rfl Try.sizeIntR ?_; intro w7 hY7 hg7; have HY7 := hide hY7; have HP7 := hide (HP6.out.grown hg7 (by simp; have := HS1.out; omega)); have HM7 := hide (HM6.out.grown hg7 (by simp; have := HS1.out; omega)); have HR7 := hide (HR6.out.grown hg7 (by simp; have := HS1.out; omega)); have HQ7 := hide (HQ6.out.grown hg7 (by simp; have := HS1.out; omega)); have HF7 := hide (HF6.out.grown hg7 (by simp; omega)); have HA7 := hide (below_grownO HA6.out hg7 (fun k hk => by cases hk; have := HS1.out; omega) HA6.out.size); have HO7 := hide (owns_grownO HO6.out hg7 (.inr (fun q => by have := (HO6.out.lt _ q).1; have := HYS.out; omega))); clear hY7 hg7))
      go_meet
      case rel =>
        refine ⟨rfl, _, _, _, _, _, by rw [HHE.out]; exact Dm.ofLog (base := WB.heap.size) HY7.out HO7.out HYS.out rfl rfl rfl, fun g hg => ?_, HP7.out, HM7.out, HR7.out, HQ7.out, HF7.out, HA7.out⟩
        have hne := HLY.out
        have hys := HYS.out
        show (if _ then _ else _) = _
        rw [if_neg (fun q => by have := (HO7.out.lt g q).1; omega), if_neg (by omega)]
  case rest =>
    as_aux_lemma =>
      obtain ⟨wk, hwk⟩ : ∃ wk, wk = wc := ⟨_, rfl⟩
      subst hwk
      obtain ⟨rfl, lab5, lv5, vv5, nv5, hv5, hdm, hlb5, hP5, hM5, hR5, hQ5, hF5, hA5⟩ := hcut
      have HTK := hide (show Nd.take ⟨n, id, te, vo, lo, ro, co, vs, ns, hs⟩ ⟨ki, fr, dt, mt, ma, mb, mc, es, ok⟩ = t4N (Nd.hear ⟨n, id, te, vo, lo, ro, co, vs, ns, hs⟩ mt) ⟨ki, fr, dt, mt, ma, mb, mc, es, ok⟩ by unfold Nd.take; rw [if_neg (fun q => absurd (show (4 : Int) = 1 from HKI.out.symm.trans q) (by decide)), if_neg (fun q => absurd (show (4 : Int) = 2 from HKI.out.symm.trans q) (by decide)), if_neg (fun q => absurd (show (4 : Int) = 3 from HKI.out.symm.trans q) (by decide))])
      have HSD := hide (show Nd.sends ⟨n, id, te, vo, lo, ro, co, vs, ns, hs⟩ ⟨ki, fr, dt, mt, ma, mb, mc, es, ok⟩ = [] by unfold Nd.sends; rw [if_neg (fun q => absurd (show (4 : Int) = 1 from HKI.out.symm.trans q) (by decide)), if_neg (fun q => absurd (show (4 : Int) = 2 from HKI.out.symm.trans q) (by decide)), if_neg (fun q => absurd (show (4 : Int) = 3 from HKI.out.symm.trans q) (by decide))])
      have HEF := hide (hear_fix ⟨n, id, te, vo, lo, ro, co, vs, ns, hs⟩ mt)
      have HFH := hide (HFX.out.hear HFM.out.t2)
      have HTT := hide (hear_term (x := ⟨n, id, te, vo, lo, ro, co, vs, ns, hs⟩) (t := mt)).1
      generalize hH : Nd.hear ⟨n, id, te, vo, lo, ro, co, vs, ns, hs⟩ mt = H at hdm HTK HSD HEF HFH HTT
      dsimp only at HEF HFM
      have HHH := hide hH
      obtain ⟨lo5, lc5, hs1⟩ := owns_shapeK hdm.log.1
      obtain ⟨vo5, vc5, hs2⟩ := owns_shapeK hdm.vot.1
      obtain ⟨no5, nc5, hs3⟩ := owns_shapeK hdm.nxt.1
      obtain ⟨ho5, hc5, hs4⟩ := owns_shapeK hdm.hav.1
      subst hs1 hs2 hs3 hs4
      clear hH HD0 HP3 HM3 HR3 HQ3 HF3 HA3 HYS p1 p2 m3 pl ml HFO HLB HTB
      have hN := below_allocG wk (.cells #[.int .i64 0, .int .i64 id, .int .i64 fr, .int .i64 H.term, .int .i64 0, .int .i64 0, .int .i64 0, .slice none 0 0, .bool false] 44)
      have HD6 := hide (hdm.below hN)
      have HM6 := hide (hM5.later hN)
      have HR6 := hide (hR5.later hN)
      have HQ6 := hide (hQ5.later hN)
      have HF6 := hide (hF5.later hN)
      have HA6 := hide (hA5.trans (hN.mono hA5.size))
      have HK6 := hide (Blk.new wk 44 #[.int .i64 0, .int .i64 id, .int .i64 fr, .int .i64 H.term, .int .i64 0, .int .i64 0, .int .i64 0, .slice none 0 0, .bool false])
      have HLK := hide (show lab5 wk.heap.size = 0 from hdm.ok _ (Nat.le_refl _))
      have HLB5 := hide hlb5
      have HYK := hide (show w3.heap.size < wk.heap.size from hdm.blk.lt)
      have hY5 := hdm.blk
      unfold ndA at hY5
      have y2 := hY5.cell 2
      have yl := hY5.lt
      have p1 := hP5.cell 1
      have pl := hP5.lt
      have m0 := hM5.cell 0
      have m1 := hM5.cell 1
      have ml := hM5.lt
      simp at y2 p1 m0 m1
      clear hdm hlb5 hP5 hM5 hR5 hQ5 hF5 hA5 hN hY5
      go_upto_region 12 with fail
      generalize hW6 : wk.alloc (.cells #[.int .i64 0, .int .i64 id, .int .i64 fr, .int .i64 H.term, .int .i64 0, .int .i64 0, .int .i64 0, .slice none 0 0, .bool false] 44) = W6 at HD6 HM6 HR6 HQ6 HF6 HA6 HK6 ⊢
      clear hW6 y2 yl p1 pl m0 m1 ml
      have m0 := HM6.out.cell 0
      have ml := HM6.out.lt
      simp at m0
      have hi1 := HS1.out
      have hi2 := HLY.out
      have hi3 := HYK.out
      go_upto_region 60 with fail
      clear m0 ml kd1 kd2 kd3
      have hY6 := HD6.out.blk
      unfold ndA at hY6
      have y2 := hY6.cell 2
      have y5 := hY6.cell 5
      have yl := hY6.lt
      have m3 := HM6.out.cell 3
      have ml := HM6.out.lt
      simp at y2 y5 m3
      clear hY6
      go_cut [284] (fun g wc => g = .bool (t4B H ⟨ki, fr, dt, mt, ma, mb, mc, es, ok⟩) ∧ W6 = wc)
      case first =>
        as_aux_lemma =>
          by_cases g1 : H.role = 2
          case neg =>
            have v1 : (H.role != 2) = true := by simp [g1]
            have HG := hide (show t4B H ⟨ki, fr, dt, mt, ma, mb, mc, es, ok⟩ = true by unfold t4B; simp [g1])
            clear g1
            focus
              go_wp2_with fail
              go_meet
              case rel => exact ⟨by rw [HG.out], rfl⟩
          have v1 : (H.role != 2) = false := by simp [g1]
          have HG := hide (show t4B H ⟨ki, fr, dt, mt, ma, mb, mc, es, ok⟩ = (mt != H.term) by unfold t4B; by_cases q : mt = H.term <;> simp [g1, q])
          clear g1
          focus
            go_wp2_with fail
            go_meet
            case rel => exact ⟨by rw [HG.out], rfl⟩
      case rest =>
        as_aux_lemma =>
          obtain ⟨rfl, rfl⟩ := hcut
          clear y2 y5 yl m3 ml
          have HTN1 : Hid (takN ⟨n, id, te, vo, lo, ro, co, vs, ns, hs⟩ ⟨ki, fr, dt, mt, ma, mb, mc, es, ok⟩ = t4N H ⟨ki, fr, dt, mt, ma, mb, mc, es, ok⟩) := hide (HTN.out.trans HTK.out)
          have HM_ : Hid (takM ⟨n, id, te, vo, lo, ro, co, vs, ns, hs⟩ ⟨ki, fr, dt, mt, ma, mb, mc, es, ok⟩ = []) := hide (HTM.out.trans HSD.out)
          clear HTN HTM HTK HSD
          go_upto_if 284 with fail
          generalize hG : t4B H ⟨ki, fr, dt, mt, ma, mb, mc, es, ok⟩ = G
          cases G
          case true =>
            have HN_ := hide (HTN1.out.trans (t4_true hG))
            clear hG HTN1
            go_upto_region 61 with fail
            as_aux_lemma =>
              refine wp_ret5 (dN := _) (dF := _) (v3 := .slice none 0 0) HD6.out.blk HF6.out HR6.out HQ6.out (by have := HS1.out; have := HLY.out; have := HYK.out; omega) (by have := HS1.out; have := HLY.out; have := HYK.out; omega) (by have := HS1.out; have := HLY.out; have := HYK.out; omega) (by have := HS1.out; have := HLY.out; have := HYK.out; omega) (by have := HS1.out; have := HLY.out; have := HYK.out; omega) (by kernel_rfl) (by kernel_rfl) rfl (by kernel_rfl) (by kernel_rfl) (by kernel_rfl) (by kernel_rfl) (by kernel_rfl) (by kernel_rfl) (by kernel_rfl) (by kernel_rfl) ⟨⟨rfl, rfl⟩, rfl, rfl, rfl⟩ ⟨⟨rfl, rfl⟩, rfl, rfl, rfl⟩ (fun _ _ _ _ h => h) (fun _ _ _ _ h => h) (by kernel_rfl) (by kernel_rfl) (by kernel_rfl) (by kernel_rfl) (by kernel_rfl) (by kernel_rfl) (by kernel_rfl) (by kernel_rfl) (by kernel_rfl) Try.underlying25 rfl Try.sizeNode Try.underlying30 rfl Try.sizeFaultR rfl rfl rfl rfl ?_
              intro wm w9 hgm hg9 hR9 hQ9
              have HR9 := hide hR9
              have HQ9 := hide hQ9
              have HD9 := hide (HD6.out.ret hgm hg9 (HLB5.out _ (by have := HS1.out; omega)) (HLB5.out _ (by have := HS1.out; omega)))
              have HA9 := hide (below_ret HA6.out hgm hg9 (by omega) (by omega) HA6.out.size)
              clear hR9 hQ9 hgm hg9
              unfold Exit.then
              rename_i hk9
              refine hk9 _ _ (wp_ret ?_)
              clear hk9
              refine bodyPost_ret (results3_ctc (v2 := .slice none 0 0) Try.results25 (by kernel_rfl) (by kernel_rfl) (by kernel_rfl) (run_loadVar_blk HR9.out Try.underlying25 rfl Try.sizeNode) (run_loadVar_blk HQ9.out Try.underlying30 rfl Try.sizeFaultR)) rfl ?_
              exact TnTo.fin HN_.out HM_.out HTF.out HD9.out.rd (RdM.nilW w9) HA9.out
          case false =>
            obtain ⟨hr2, hE1⟩ := t4_false hG
            have HNE := hide (HTN1.out.trans hE1)
            dsimp only at HNE
            obtain ⟨kn1, kn2, kn3, kn4, kn5⟩ := lead_known HFH.out hr2
            obtain ⟨I, hI⟩ : ∃ I : Nat, fr = I := ⟨fr.toNat, by have := HFM.out.f0; simp only at this; omega⟩
            have hfn := HFM.out.fn
            simp only at hfn
            have hin := HEF.out.1
            obtain ⟨u1, hu1⟩ : ∃ u, H.hav[I]? = some u := ⟨_, List.getElem?_eq_getElem (by omega)⟩
            obtain ⟨u2, hu2⟩ : ∃ u, H.next[I]? = some u := ⟨_, List.getElem?_eq_getElem (by omega)⟩
            have hb1 := kn4 u1 (List.mem_of_getElem? hu1)
            have hb2 := kn3 u2 (List.mem_of_getElem? hu2)
            obtain ⟨g, gcap, hs4, hgl, hgc, hgz⟩ := HD6.out.hav.atI hu1
            obtain ⟨g2, gcap2, hs3, hgl2, hgc2, hgz2⟩ := HD6.out.nxt.atI hu2
            simp only [Value.slice.injEq] at hs3 hs4
            obtain ⟨rfl, -, rfl⟩ := hs3
            obtain ⟨rfl, -, rfl⟩ := hs4
            have hL1 : I < H.hav.length := (List.getElem?_eq_some_iff.1 hu1).1
            have hL2 : I < H.next.length := (List.getElem?_eq_some_iff.1 hu2).1
            have HUS := hide (And.intro hu1 hu2)
            have HI := hide hI
            have hll := HFH.out.loglen
            have HNM := hide (show 0 ≤ u1 ∧ u1 ≤ H.log.length ∧ 1 ≤ u2 ∧ u2 ≤ H.log.length + 1 ∧ H.log.length ≤ 100 by omega)
            have HKN := hide (show H.n ≤ 7 ∧ 1 ≤ H.n ∧ H.hav.length ≤ 7 ∧ 0 ≤ H.com ∧ H.com ≤ H.log.length by have := HFH.out.n1; have := HFH.out.n7; have := HFH.out.c0; have := HFH.out.cl; omega)
            have hma0 := HFM.out.a0
            have hma1 := HFM.out.a1
            simp only at hma0 hma1
            have HMA := hide (And.intro hma0 hma1)
            have hk1 : (0 : Int) ≤ (I : Int) := by omega
            have hk2 : (I : Int) < (H.hav.length : Int) := by omega
            have hk3 : (I : Int) < (H.next.length : Int) := by omega
            have HG1 := hide (show gI H.hav fr = u1 by rw [hI]; exact gI_of hu1)
            have HG2 := hide (show gI H.next fr = u2 by rw [hI]; exact gI_of hu2)
            have HTI := hide (show fr.toNat = I by rw [hI]; rfl)
            clear hG HTN1 hr2 hE1 kn1 kn2 kn3 kn4 kn5 hfn hin hb1 hb2 hu1 hu2 hma0 hma1 hll hL1 hL2
            have hY6 := HD6.out.blk
            unfold ndA at hY6
            have y4 := hY6.cell 4
            have y8 := hY6.cell 8
            have y9 := hY6.cell 9
            have yl := hY6.lt
            have m1 := HM6.out.cell 1
            have m4 := HM6.out.cell 4
            have m8 := HM6.out.cell 8
            have ml := HM6.out.lt
            simp at y4 y8 y9 m1 m4 m8
            rw [hI] at m1
            clear hY6 hI
            go_upto_if 290 with fail
            cases ok
            case true =>
              have HNE := hide (HNE.out.trans (if_neg (by simp)))
              go_upto_if 297 with fail
              generalize hP : decide ((H.log.length : Int) < ma) = PB
              have HP_ := hide hP
              clear hP
              go_cut [17] (fun v wx => v = .int .i64 (min ma (H.log.length : Int)) ∧ W6 = wx)
              case first =>
                as_aux_lemma =>
                  cases PB
                  case true =>
                    have hq := of_decide_eq_true HP_.out
                    have HMN := hide (show min ma (H.log.length : Int) = H.log.length by omega)
                    clear hq
                    focus
                      go_wp2_with fail
                      go_meet
                      case rel => exact ⟨by rw [HMN.out], rfl⟩
                  have hq := of_decide_eq_false HP_.out
                  have HMN := hide (show min ma (H.log.length : Int) = ma by omega)
                  clear hq
                  focus
                    go_wp2_with fail
                    go_meet
                    case rel => exact ⟨by rw [HMN.out], rfl⟩
              case rest =>
                as_aux_lemma =>
                  obtain ⟨rfl, rfl⟩ := hcut
                  clear HP_
                  generalize hAe : min ma (H.log.length : Int) = A
                  have HAA := hide (show 0 ≤ A ∧ A ≤ H.log.length by have := HMA.out; omega)
                  rw [hAe] at HNE
                  clear hAe
                  go_upto_if 307 with fail
                  generalize hP : decide (u1 < A) = PB
                  have HP_ := hide hP
                  clear hP
                  go_cut [8] (fun yv wx => yv = .pointer (some ⟨w3.heap.size, 0, none⟩) ∧ Dm wx lab5 w3.heap.size { H with hav := H.hav.set I (max u1 A) } (.slice lo5 H.log.length lc5) (.slice vo5 H.votes.length vc5) (.slice (some ⟨g2, 0, none⟩) H.next.length nc5) (.slice (some ⟨g, 0, none⟩) H.hav.length hc5) ∧ Blk wx (w.heap.size + 1) 44 #[.int .i64 ki, .int .i64 fr, .int .i64 dt, .int .i64 mt, .int .i64 ma, .int .i64 mb, .int .i64 mc, .slice eo es.length ec, .bool true] ∧ Blk wx (w.heap.size + 1 + 1) 25 #[.int .i64 0, .int .i64 0, .int .i64 0, .int .i64 0, .slice none 0 0, .int .i64 0, .int .i64 0, .slice none 0 0, .slice none 0 0, .slice none 0 0] ∧ Blk wx (w.heap.size + 1 + 1 + 1) 30 #[.int .i64 0, .int .i64 0] ∧ Blk wx w1.heap.size 30 #[.int .i64 0, .int .i64 0] ∧ Below w.heap.size w wx)
                  case first =>
                    as_aux_lemma =>
                      cases PB
                      case false =>
                        have hq := of_decide_eq_false HP_.out
                        have HMX := hide (show max u1 A = u1 by omega)
                        have HST := hide (set_selfI HUS.out.1)
                        clear hq
                        focus
                          go_wp2_with fail
                          go_meet
                          case rel => exact ⟨rfl, by rw [HMX.out, HST.out]; exact HD6.out, HM6.out, HR6.out, HQ6.out, HF6.out, HA6.out⟩
                      have hq := of_decide_eq_true HP_.out
                      have HMX := hide (show max u1 A = A by omega)
                      clear hq
                      focus
                        go_upto_region 69 with fail
                        obtain ⟨hN7, hC7⟩ := HD6.out.setHave I (A)
                        have hg7 := grown_setCell W6 g I (.int .i64 (A))
                        have hlg7 : w1.heap.size < g := by
                          have h0 := HD6.out.hav.2 g (by simp [Value.ownBlock])
                          by_cases q : g ≤ w1.heap.size
                          · have h1 := HLB5.out g q
                            omega
                          · omega
                        have HM7 := hide (HM6.out.grown hg7 (by simp; have := HS1.out; omega))
                        have HR7 := hide (HR6.out.grown hg7 (by simp; have := HS1.out; omega))
                        have HQ7 := hide (HQ6.out.grown hg7 (by simp; have := HS1.out; omega))
                        have HF7 := hide (HF6.out.grown hg7 (by simp; omega))
                        have HA7 := hide (below_grownO HA6.out hg7 (fun k hk => by cases hk; have := HS1.out; omega) HA6.out.size)
                        try simp only at hN7
                        have HD7 := hide hN7
                        generalize (W6.setCell ⟨g, I, none⟩ (.int .i64 (A))) = w7 at HD7 HM7 HR7 HQ7 HF7 HA7 ⊢
                        clear hN7 hC7 hg7 hlg7
                        go_meet
                        case rel => exact ⟨rfl, by rw [HMX.out]; exact HD7.out, HM7.out, HR7.out, HQ7.out, HF7.out, HA7.out⟩
                  case rest =>
                    as_aux_lemma =>
                      obtain ⟨rfl, hd7, hM7, hR7, hQ7, hF7, hA7⟩ := hcut
                      generalize hMe : max u1 A = Z at hd7
                      rw [HG1.out, hMe] at HNE
                      have HZ_ := hide (show 0 ≤ Z ∧ Z ≤ H.log.length by have := HAA.out; have := HNM.out; omega)
                      clear hMe HP_ y4 y8 y9 yl m1 m4 m8 ml HD6 HM6 HR6 HQ6 HF6 HA6 HK6 hgl hgc hgz hgl2 hgc2 hgz2
                      have hu1 : (H.hav.set I Z)[I]? = some Z := by rw [List.getElem?_set_self (by omega)]
                      obtain ⟨g', gcap', hs4, hgl, hgc, hgz⟩ := hd7.hav.atI hu1
                      obtain ⟨g2', gcap2', hs3, hgl2, hgc2, hgz2⟩ := hd7.nxt.atI HUS.out.2
                      simp only [Value.slice.injEq, Option.some.injEq, Addr.mk.injEq] at hs3 hs4
                      obtain ⟨⟨rfl, -, -⟩, -, rfl⟩ := hs3
                      obtain ⟨⟨rfl, -, -⟩, -, rfl⟩ := hs4
                      have HD7 := hide hd7
                      have HM7 := hide hM7
                      have HR7 := hide hR7
                      have HQ7 := hide hQ7
                      have HF7 := hide hF7
                      have HA7 := hide hA7
                      have hY7 := hd7.blk
                      unfold ndA at hY7
                      have y8 := hY7.cell 8
                      have y9 := hY7.cell 9
                      have yl := hY7.lt
                      simp at y8 y9
                      have hw1 : IntKind.i64.wrap (Z + 1) = Z + 1 := by have := HZ_.out; have := HNM.out; rw [IntKind.wrap_i64]; omega
                      clear hY7 hd7 hM7 hR7 hQ7 hF7 hA7 hu1
                      obtain ⟨w7, hw7⟩ : ∃ w7, w7 = wc := ⟨_, rfl⟩
                      subst hw7
                      go_upto_region 69 with fail
                      go_cut [8] (fun yv wx => yv = .pointer (some ⟨w3.heap.size, 0, none⟩) ∧ wx = (w7.setCell ⟨g2, I, none⟩ (.int .i64 (Z + 1))).drew)
                      case first =>
                        as_aux_lemma =>
                          go_region
                          all_goals
                            go_wp2_with fail
                            go_meet
                            case rel => exact ⟨rfl, rfl⟩
                      case rest =>
                        as_aux_lemma =>
                          obtain ⟨rfl, rfl⟩ := hcut
                          clear hgl hgc hgz hgl2 hgc2 hgz2 y8 y9 yl
                          obtain ⟨hN9, hC9⟩ := HD7.out.setNext I (Z + 1)
                          have hg9 := grown_setCell w7 g2 I (.int .i64 (Z + 1))
                          have hlg9 : w1.heap.size < g2 := by
                            have h0 := HD7.out.nxt.2 g2 (by simp [Value.ownBlock])
                            by_cases q : g2 ≤ w1.heap.size
                            · have h1 := HLB5.out g2 q
                              omega
                            · omega
                          have HM9 := hide (HM7.out.grown hg9 (by simp; have := HS1.out; omega))
                          have HR9 := hide (HR7.out.grown hg9 (by simp; have := HS1.out; omega))
                          have HQ9 := hide (HQ7.out.grown hg9 (by simp; have := HS1.out; omega))
                          have HF9 := hide (HF7.out.grown hg9 (by simp; omega))
                          have HA9 := hide (below_grownO HA7.out hg9 (fun k hk => by cases hk; have := HS1.out; omega) HA7.out.size)
                          try simp only at hN9
                          have HD9 := hide hN9
                          generalize (w7.setCell ⟨g2, I, none⟩ (.int .i64 (Z + 1))) = w9 at HD9 HM9 HR9 HQ9 HF9 HA9 ⊢
                          clear hN9 hC9 hg9 hlg9
                          have hdr : Below w9.heap.size w9 w9.drew := Below.drew (Below.refl _ _)
                          have HDa := hide (HD9.out.below hdr)
                          have HMa := hide (HM9.out.later hdr)
                          have HRa := hide (HR9.out.later hdr)
                          have HQa := hide (HQ9.out.later hdr)
                          have HFa := hide (HF9.out.later hdr)
                          have HAa := hide (HA9.out.trans (hdr.mono HA9.out.size))
                          obtain ⟨wd, hwd⟩ : ∃ wd, wd = w9.drew := ⟨_, rfl⟩
                          rw [← hwd] at HDa HMa HRa HQa HFa HAa ⊢
                          clear hwd hdr HD9 HM9 HR9 HQ9 HF9 HA9
                          have HCN := hide (Counted_any { H with hav := H.hav.set I Z, next := H.next.set I (Z + 1) } (.slice lo5 H.log.length lc5) (.slice vo5 H.votes.length vc5) (.slice (some ⟨g2, 0, none⟩) H.next.length nc5) (.slice (some ⟨g, 0, none⟩) H.hav.length hc5) wd.drew (HDa.out.rd.below (Below.drew (Below.refl _ _))) (by have := HKN.out; show 0 ≤ H.n; omega) (by have := HKN.out; show H.n ≤ 1000; omega) (by have := HNM.out; show H.log.length ≤ 1000; omega) (by have := HKN.out; show (H.hav.set I Z).length ≤ 1000; rw [List.length_set]; omega) HKN.out.2.2.2.1 HKN.out.2.2.2.2)
                          have HN_ : Hid (takN ⟨n, id, te, vo, lo, ro, co, vs, ns, hs⟩ ⟨ki, fr, dt, mt, ma, mb, mc, es, .true⟩ = ({ H with hav := H.hav.set I Z, next := H.next.set I (Z + 1) } : Nd).count) := by
                            rw [HTI.out] at HNE
                            exact HNE
                          obtain ⟨XY, hXY⟩ : ∃ XY : Nd, XY = { H with hav := H.hav.set I Z, next := H.next.set I (Z + 1) } := ⟨_, rfl⟩
                          rw [← hXY] at HCN HN_ HDa
                          obtain ⟨XC, hXC⟩ : ∃ XC : Nd, XC = XY.count := ⟨_, rfl⟩
                          rw [← hXC] at HCN HN_
                          have HXC := hide hXC
                          clear hXY hXC
                          go_upto_region 70 with fail
                          as_aux_lemma =>
                            refine wp_ret6c (f := 48) (us := ndA XC (.slice lo5 H.log.length lc5) (.slice vo5 H.votes.length vc5) (.slice (some ⟨g2, 0, none⟩) H.next.length nc5) (.slice (some ⟨g, 0, none⟩) H.hav.length hc5)) (dN := _) (dF := _) (v4 := .slice none 0 0) HDa.out.blk HFa.out HRa.out HQa.out (by have := HS1.out; have := HLY.out; have := HYK.out; omega) (by have := HS1.out; have := HLY.out; have := HYK.out; omega) (by have := HS1.out; have := HLY.out; have := HYK.out; omega) (by have := HS1.out; have := HLY.out; have := HYK.out; omega) (by have := HS1.out; have := HLY.out; have := HYK.out; omega) (HCN.out.mono (by rintro e w' ⟨rfl, h2⟩; exact ⟨_, rfl, rfl, h2⟩)) enters_Counted4 (by kernel_rfl) (by kernel_rfl) rfl ⟨by kernel_rfl, by kernel_rfl⟩ ⟨by kernel_rfl, by kernel_rfl⟩ (by kernel_rfl) (by kernel_rfl) (by kernel_rfl) (by kernel_rfl) (by kernel_rfl) ⟨⟨rfl, rfl⟩, rfl, rfl, rfl, rfl⟩ ⟨⟨rfl, rfl⟩, rfl, rfl, rfl, rfl⟩ (fun _ _ _ _ h => h) (fun _ _ _ _ h => h) (by kernel_rfl) (by kernel_rfl) (by kernel_rfl) (by kernel_rfl) (by kernel_rfl) (by kernel_rfl) (by kernel_rfl) (by kernel_rfl) rfl rfl Try.underlying25 rfl Try.sizeNode rfl Try.underlying30 rfl Try.sizeFaultR rfl rfl rfl rfl ?_
                            intro W wm w10 hbW hgm hg10 hR9 hQ9
                            have HD10 := hide ((HDa.out.below hbW).ret hgm hg10 (HLB5.out _ (by have := HS1.out; omega)) (HLB5.out _ (by have := HS1.out; omega)))
                            have HA10 := hide (below_ret (HAa.out.trans (hbW.mono HAa.out.size)) hgm hg10 (by omega) (by omega) (Nat.le_trans HAa.out.size hbW.size))
                            have HR9 := hide hR9
                            have HQ9 := hide hQ9
                            clear hR9 hQ9 hgm hg10
                            unfold Exit.then
                            rename_i hk9
                            refine hk9 _ _ (wp_ret ?_)
                            clear hk9
                            refine bodyPost_ret (results3_ctc (v2 := .slice none 0 0) Try.results25 (by kernel_rfl) (by kernel_rfl) (by kernel_rfl) (run_loadVar_blk HR9.out Try.underlying25 rfl Try.sizeNode) (run_loadVar_blk HQ9.out Try.underlying30 rfl Try.sizeFaultR)) rfl ?_
                            obtain rfl := HXC.out
                            exact TnTo.fin HN_.out HM_.out HTF.out (lv := .slice lo5 H.log.length lc5) (vv := .slice vo5 H.votes.length vc5) (nv := .slice (some ⟨g2, 0, none⟩) H.next.length nc5) (hv := .slice (some ⟨g, 0, none⟩) H.hav.length hc5) ⟨HD10.out.rd.log, HD10.out.rd.votes, HD10.out.rd.next, HD10.out.rd.hav⟩ (RdM.nilW w10) HA10.out
            case false =>
              have HNE := hide (HNE.out.trans (if_pos rfl))
              have hw1 : IntKind.i64.wrap (u2 - 1) = u2 - 1 := by have := HNM.out; rw [IntKind.wrap_i64]; omega
              have hw2 : IntKind.i64.wrap (ma + 1) = ma + 1 := by have := HMA.out; rw [IntKind.wrap_i64]; omega
              have hw3 : IntKind.i64.wrap (u1 + 1) = u1 + 1 := by have := HNM.out; rw [IntKind.wrap_i64]; omega
              go_upto_if 336 with fail
              generalize hP : decide (ma + 1 < u2 - 1) = PB
              have HP_ := hide hP
              clear hP
              go_cut [18] (fun v wx => v = .int .i64 (min (u2 - 1) (ma + 1)) ∧ W6 = wx)
              case first =>
                as_aux_lemma =>
                  cases PB
                  case true =>
                    have hq := of_decide_eq_true HP_.out
                    have HMN := hide (show min (u2 - 1) (ma + 1) = ma + 1 by omega)
                    clear hq
                    focus
                      go_wp2_with fail
                      go_meet
                      case rel => exact ⟨by rw [HMN.out], rfl⟩
                  have hq := of_decide_eq_false HP_.out
                  have HMN := hide (show min (u2 - 1) (ma + 1) = u2 - 1 by omega)
                  clear hq
                  focus
                    go_wp2_with fail
                    go_meet
                    case rel => exact ⟨by rw [HMN.out], rfl⟩
              case rest =>
                as_aux_lemma =>
                  obtain ⟨rfl, rfl⟩ := hcut
                  clear HP_ hw1 hw2
                  generalize hAe : min (u2 - 1) (ma + 1) = A
                  rw [HG2.out, hAe] at HNE
                  clear hAe
                  go_upto_if 347 with fail
                  generalize hP : decide (A < u1 + 1) = PB
                  have HP_ := hide hP
                  clear hP
                  go_cut [18] (fun v wx => v = .int .i64 (max A (u1 + 1)) ∧ W6 = wx)
                  case first =>
                    as_aux_lemma =>
                      cases PB
                      case true =>
                        have hq := of_decide_eq_true HP_.out
                        have HMN := hide (show max A (u1 + 1) = u1 + 1 by omega)
                        clear hq
                        focus
                          go_wp2_with fail
                          go_meet
                          case rel => exact ⟨by rw [HMN.out], rfl⟩
                      have hq := of_decide_eq_false HP_.out
                      have HMN := hide (show max A (u1 + 1) = A by omega)
                      clear hq
                      focus
                        go_wp2_with fail
                        go_meet
                        case rel => exact ⟨by rw [HMN.out], rfl⟩
                  case rest =>
                    as_aux_lemma =>
                      obtain ⟨rfl, rfl⟩ := hcut
                      clear HP_ hw3
                      generalize hZe : max A (u1 + 1) = Z
                      rw [HG1.out, hZe] at HNE
                      clear hZe
                      go_upto_region 77 with fail
                      obtain ⟨hN7, hC7⟩ := HD6.out.setNext I (Z)
                      have hg7 := grown_setCell W6 g2 I (.int .i64 (Z))
                      have hlg7 : w1.heap.size < g2 := by
                        have h0 := HD6.out.nxt.2 g2 (by simp [Value.ownBlock])
                        by_cases q : g2 ≤ w1.heap.size
                        · have h1 := HLB5.out g2 q
                          omega
                        · omega
                      have HM7 := hide (HM6.out.grown hg7 (by simp; have := HS1.out; omega))
                      have HR7 := hide (HR6.out.grown hg7 (by simp; have := HS1.out; omega))
                      have HQ7 := hide (HQ6.out.grown hg7 (by simp; have := HS1.out; omega))
                      have HF7 := hide (HF6.out.grown hg7 (by simp; omega))
                      have HA7 := hide (below_grownO HA6.out hg7 (fun k hk => by cases hk; have := HS1.out; omega) HA6.out.size)
                      try simp only at hN7
                      have HD7 := hide hN7
                      generalize (W6.setCell ⟨g2, I, none⟩ (.int .i64 (Z))) = w7 at HD7 HM7 HR7 HQ7 HF7 HA7 ⊢
                      clear hN7 hC7 hg7 hlg7
                      have HN_ : Hid (takN ⟨n, id, te, vo, lo, ro, co, vs, ns, hs⟩ ⟨ki, fr, dt, mt, ma, mb, mc, es, .false⟩ = { H with next := H.next.set I Z }) := by
                        rw [HTI.out] at HNE
                        exact HNE
                      as_aux_lemma =>
                        refine wp_ret5 (dN := _) (dF := _) (v3 := .slice none 0 0) HD7.out.blk HF7.out HR7.out HQ7.out (by have := HS1.out; have := HLY.out; have := HYK.out; omega) (by have := HS1.out; have := HLY.out; have := HYK.out; omega) (by have := HS1.out; have := HLY.out; have := HYK.out; omega) (by have := HS1.out; have := HLY.out; have := HYK.out; omega) (by have := HS1.out; have := HLY.out; have := HYK.out; omega) (by kernel_rfl) (by kernel_rfl) rfl (by kernel_rfl) (by kernel_rfl) (by kernel_rfl) (by kernel_rfl) (by kernel_rfl) (by kernel_rfl) (by kernel_rfl) (by kernel_rfl) ⟨⟨rfl, rfl⟩, rfl, rfl, rfl⟩ ⟨⟨rfl, rfl⟩, rfl, rfl, rfl⟩ (fun _ _ _ _ h => h) (fun _ _ _ _ h => h) (by kernel_rfl) (by kernel_rfl) (by kernel_rfl) (by kernel_rfl) (by kernel_rfl) (by kernel_rfl) (by kernel_rfl) (by kernel_rfl) (by kernel_rfl) Try.underlying25 rfl Try.sizeNode Try.underlying30 rfl Try.sizeFaultR rfl rfl rfl rfl ?_
                        intro wm w9 hgm hg9 hR9 hQ9
                        have HR9 := hide hR9
                        have HQ9 := hide hQ9
                        have HD9 := hide (HD7.out.ret hgm hg9 (HLB5.out _ (by have := HS1.out; omega)) (HLB5.out _ (by have := HS1.out; omega)))
                        have HA9 := hide (below_ret HA7.out hgm hg9 (by omega) (by omega) HA7.out.size)
                        clear hR9 hQ9 hgm hg9
                        unfold Exit.then
                        rename_i hk9
                        refine hk9 _ _ (wp_ret ?_)
                        clear hk9
                        refine bodyPost_ret (results3_ctc (v2 := .slice none 0 0) Try.results25 (by kernel_rfl) (by kernel_rfl) (by kernel_rfl) (run_loadVar_blk HR9.out Try.underlying25 rfl Try.sizeNode) (run_loadVar_blk HQ9.out Try.underlying30 rfl Try.sizeFaultR)) rfl ?_
                        exact TnTo.fin HN_.out HM_.out HTF.out HD9.out.rd (RdM.nilW w9) HA9.out

end Go.Proofs.Ytbffmdhogehfnaa
