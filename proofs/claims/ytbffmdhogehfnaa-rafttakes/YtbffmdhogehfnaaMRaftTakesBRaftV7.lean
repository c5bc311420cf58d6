/-
  Texts joined: RaftV7.
-/
import Derived.Test.YtbffmdhogehfnaaMRaftTakes13
/-
  The walk over the document's TakeNode: one that brings entries. (Written by rv2.py and those that take it up.)
-/
namespace Go.Proofs.Ytbffmdhogehfnaa
open Go.RowKit Go.Maps
set_option linter.unusedVariables false

/-- No string in it. -/
def noStr : Value → Bool
  | .string _ => false
  | _ => true

theorem RdG.noS {w w' : World} {v : Value} {xs : List Et} {R : Nat} {t : TypeId} {ys : Array Value} (hr : RdG eE w v xs) (hg : w.grownBy w' (some R)) (hB : Blk w R t ys) (hn : ys.toList.all noStr = true) : RdG eE w' v xs := by
  obtain ⟨ao, cap, rfl, h1, h2, h3, h4⟩ := hr
  refine ⟨ao, cap, rfl, h1, h2, h3, fun ad ha j u hu => ?_⟩
  have hc := h4 ad ha j u hu
  have hlt := World.block_lt_of_cell? w _ hc
  have e : (ad.add j).block = ad.block := by unfold Addr.add; split <;> rfl
  have hne : ad.block ≠ R := by
    intro q
    cases xs with
    | nil => simp [En.vs] at hu
    | cons x xs' =>
      have hs := h4 ad ha 1 (.string x.text) (by simp [En.vs, eE])
      have h0 := h4 ad ha 0 (.int .i64 x.term) (by simp [En.vs, eE])
      obtain ⟨b', o, rfl⟩ := add_spot h0
      rw [Addr.add_lit] at hs
      simp only at q
      subst q
      rw [hB.cell (o + 1)] at hs
      have hm : (Value.string x.text) ∈ ys.toList := Array.mem_toList_iff.2 (Array.mem_of_getElem? hs)
      have := List.all_eq_true.1 hn _ hm
      simp [noStr] at this
  rw [← hc]
  exact World.cell?_of_block (hg.block _ hlt (by rw [e]; intro q; cases q; exact hne rfl))

theorem t3_eq {x : Nd} {m : Ml} : t3K x m = if m.term < x.term then .old else if x.role = 2 then .leads
  else if (putX x.log m.a m.b m.ents).1 ≠ 0 then .none
  else if begB (putL x.log m.a m.b m.ents) (x.log.take x.com.toNat) = false then .none
  else if putI x.log m.a m.b m.ents = false then .no else .yes := rfl

theorem t3_old {x : Nd} {m : Ml} (h : t3K x m = .old) : t3N x m = x ∧ t3M x m = ansM x m 4 false 0 := by unfold t3N t3M; rw [h]; exact ⟨rfl, rfl⟩
theorem t3_leads {x : Nd} {m : Ml} (h : t3K x m = .leads) : t3N x m = x ∧ t3M x m = [] := by unfold t3N t3M; rw [h]; exact ⟨rfl, rfl⟩
theorem t3_none {x : Nd} {m : Ml} (h : t3K x m = .none) : t3N x m = x.follow ∧ t3M x m = [] := by unfold t3N t3M; rw [h]; exact ⟨rfl, rfl⟩
theorem t3_no {x : Nd} {m : Ml} (h : t3K x m = .no) : t3N x m = x.follow ∧ t3M x m = ansM x m 4 false (max 0 (min (m.a - 1) x.log.length)) := by unfold t3N t3M; rw [h]; exact ⟨rfl, rfl⟩
theorem t3_yes {x : Nd} {m : Ml} (h : t3K x m = .yes) : t3N x m = { x.follow with log := putL x.log m.a m.b m.ents, com := max x.com (min m.c (m.a + m.ents.length)) } ∧ t3M x m = ansM x m 4 true (m.a + m.ents.length) := by unfold t3N t3M; rw [h]; exact ⟨rfl, rfl⟩

theorem put_not {l : List Et} {n t : Int} {m : List Et} (h1 : (putX l n t m).1 = 0) (h2 : putI l n t m = false) : putL l n t m = l := by
  unfold putX at h1
  unfold putI at h2
  unfold putL
  by_cases h3 : (ptF l n t m).1 ≠ 0
  · rw [if_pos h3] at h1; exact absurd h1 h3
  rw [if_neg h3] at h1 h2 ⊢
  by_cases h4 : hasE l n.toNat t = false
  · rw [if_pos h4]
  rw [if_neg h4] at h1 h2
  rw [if_neg (by simp [h1])] at h2
  simp at h2

theorem beg_self {l : List Et} {k : Nat} : begB l (l.take k) = true := by
  unfold begB
  rw [List.length_take]
  simp
  omega

theorem beg_all {l a : List Et} {k : Nat} (hk : k ≤ a.length) (h : ∀ j, j < k → l[j]? = a[j]?) : begB l (a.take k) = true := by
  have hl : (a.take k).length = k := by rw [List.length_take]; omega
  have hlk : k ≤ l.length := by
    by_cases q : k = 0
    · omega
    have h1 := h (k - 1) (by omega)
    rw [List.getElem?_eq_getElem (by omega : k - 1 < a.length)] at h1
    have := (List.getElem?_eq_some_iff.1 h1).1
    omega
  have he : l.take k = a.take k := by
    apply List.ext_getElem?
    intro j
    rw [List.getElem?_take, List.getElem?_take]
    by_cases q : j < k
    · rw [if_pos q, if_pos q, h j q]
    · rw [if_neg q, if_neg q]
  unfold begB
  rw [hl, he]
  simp
  omega

theorem beg_not {l a : List Et} {k j : Nat} (hj : j < k) (hk : k ≤ a.length) (h : l[j]? ≠ a[j]?) : begB l (a.take k) = false := by
  have hl : (a.take k).length = k := by rw [List.length_take]; omega
  unfold begB
  rw [hl]
  by_cases q : l.take k = a.take k
  · exfalso
    apply h
    have := congrArg (fun x : List Et => x[j]?) q
    simpa only [List.getElem?_take, if_pos hj] using this
  · simp [q]

theorem putI_lens {l : List Et} {n t : Int} {m : List Et} : True := trivial

set_option maxRecDepth 100000 in
set_option maxHeartbeats 16000000 in
theorem TakeNode_3 (x : Nd) (lv vv nv hv : Value) (m : Ml) (ev : Value) (w : World) (hx : RdNd w x lv vv nv hv) (he : RdG eE w ev m.ents) (hok : (takF x m).1 = 0) (hk : m.kind = 3) :
    Calls Try.prog 25 #[ndV x lv vv nv hv, mlV m ev] w (TnTo x m w) := by
  obtain ⟨hfx, hfm⟩ := takF_ok hok
  have HFX := hide hfx
  have HFM := hide hfm
  have htf : takF x m = (0, 0) := by
    have h0 := takF_z x m
    have h1 := h0 hok
    exact h1
  have HTF := hide htf
  have HTN : Hid (takN x m = x.take m) := hide (if_pos hok)
  have HTM : Hid (takM x m = x.sends m) := hide (if_pos hok)
  have hck := chkN_of hfx
  have HMF := hide (show mfB x m = true by
    have h0 := takF_mf x m
    rw [htf, hck, if_neg (by simp)] at h0
    cases hb : mfB x m
    · rw [hb] at h0; simp at h0
    · rfl)
  have HMC := hide (fun W (h : Below w.heap.size w W) => MailFine_any x lv vv nv hv m ev W (hx.below h) (he.below h))
  rw [HMF.out] at HMC
  obtain ⟨sm1, sm2, sm3, sm4⟩ := hfx.small
  have HCP := hide (fun W (h : Below w.heap.size w W) => CopyNode_any x lv vv nv hv W (hx.below h) (by omega) (by omega) (by omega) (by omega))
  have HFO := hide (fun W (h : Below w.heap.size w W) => Follower_any x lv vv nv hv W (hx.below h) (by omega))
  have HKI := hide hk
  have HCK := hide hck
  clear hok hck htf hfx hfm hk sm1 sm2 sm3 sm4
  have HX := hide hx
  have HEV := hide he
  obtain ⟨n, id, te, vo, lo, ro, co, vs, ns, hs⟩ := x
  obtain ⟨h1, h2, h3, h4⟩ := hx
  simp only at h1 h2 h3 h4
  obtain ⟨ao, cap, rfl, hc1, hc2⟩ := h1.shape
  obtain ⟨bo, cap2, rfl, hd1, hd2⟩ := h2.shape
  obtain ⟨no, cap3, rfl, _, _⟩ := h3.shape
  obtain ⟨ho, cap4, rfl, _, _⟩ := h4.shape
  obtain ⟨ki, fr, dt, mt, ma, mb, mc, es, ok⟩ := m
  simp only at he
  obtain ⟨eo, ec, rfl, he1, he2⟩ := he.shape
  obtain ⟨hP, hM, hR, hQ, hA, hS⟩ := four_at w #[.int .i64 n, .int .i64 id, .int .i64 te, .int .i64 vo, .slice ao lo.length cap, .int .i64 ro, .int .i64 co, .slice bo vs.length cap2, .slice no ns.length cap3, .slice ho hs.length cap4] #[.int .i64 ki, .int .i64 fr, .int .i64 dt, .int .i64 mt, .int .i64 ma, .int .i64 mb, .int .i64 mc, .slice eo es.length ec, .bool ok] #[.int .i64 0, .int .i64 0, .int .i64 0, .int .i64 0, .slice none 0 0, .int .i64 0, .int .i64 0, .slice none 0 0, .slice none 0 0, .slice none 0 0] #[.int .i64 0, .int .i64 0] 25 44 25 30
  have HC1 := hide (NodeFault_any ⟨n, id, te, vo, lo, ro, co, vs, ns, hs⟩ _ _ _ _ _ (HX.out.below hA))
  rw [HCK.out] at HC1
  unfold ndV ndA mlV mlA at HMC
  unfold ndV ndA at HCP HFO
  dsimp only [Nd.follow] at HFO
  dsimp only at HCP HKI HFM
  obtain ⟨p, hp0⟩ : ∃ p : Int, p = 0 := ⟨_, rfl⟩
  obtain ⟨q, hq0⟩ : ∃ q : Int, q = 0 := ⟨_, rfl⟩
  unfold ndV ndA flt at HC1
  unfold ndV ndA mlV mlA
  have HP := hide hP
  have HM := hide hM
  have HR := hide hR
  have HQ := hide hQ
  have HA := hide hA
  have HS := hide hS
  clear h1 h2 h3 h4 he hP hM hR hQ hA hS
  go_enter Try.func25, Try.ntmps25
  go_wp2_with (refine wpList_load_blk HP.out Try.underlying25 rfl Try.sizeNode rfl rfl rfl ?_)
  refine HC1.out.mono ?_
  rintro e w1 ⟨rfl, hb1⟩
  have hN := below_allocG w1 (.cells #[.int .i64 0, .int .i64 0] 30)
  have HP1 := hide ((HP.out.later hb1).later hN)
  have HM1 := hide ((HM.out.later hb1).later hN)
  have HR1 := hide ((HR.out.later hb1).later hN)
  have HQ1 := hide ((HQ.out.later hb1).later hN)
  have hAA := HA.out.trans (hb1.mono HA.out.size)
  have HA1 := hide (hAA.trans (hN.mono hAA.size))
  have HS1 := hide (show w.heap.size + 4 ≤ w1.heap.size by have := hb1.size; have := HS.out; omega)
  have HF1 := hide (Blk.new w1 30 #[.int .i64 0, .int .i64 0])
  have HL1 := hide (show w1.heap.size < (w1.alloc (.cells #[.int .i64 0, .int .i64 0] 30)).heap.size by simp)
  have hrq : w.heap.size + 1 + 1 ≠ w.heap.size + 1 + 1 + 1 := by omega
  have hqr : w.heap.size + 1 + 1 + 1 ≠ w.heap.size + 1 + 1 := by omega
  clear hb1 hN hAA HC1 HP HM HR HQ HA HS
  have kd1 : (ki == 1) = false := beq_eq_false_iff_ne.2 (by rw [HKI.out]; decide)
  have kd2 : (ki == 2) = false := beq_eq_false_iff_ne.2 (by rw [HKI.out]; decide)
  have kd3 : (ki == 3) = true := by rw [HKI.out]; rfl
  clear hp0 hq0 p q
  have HMC1 := hide (HMC.out _ HA1.out)
  clear HMC
  go_upto_region 2 with fail
  generalize hWW : (w1.alloc (.cells #[.int .i64 0, .int .i64 0] 30)) = W at HP1 HM1 HR1 HQ1 HA1 HF1 HMC1 HL1 ⊢
  clear hWW
  have f0 := HF1.out.cell 0
  simp at f0
  go_upto_region 4 with (first
    | (refine wpList_load_blkW HP1.out Try.underlying25 rfl Try.sizeNode rfl rfl rfl ?_)
    | (refine wpList_load_blkW HM1.out Try.underlying44 rfl Try.sizeMail rfl rfl rfl ?_)
    | (go_at_call 52; refine HMC1.out.mono ?_; rintro e w2 ⟨rfl, hb2⟩; have HP2 := hide (HP1.out.later hb2); have HM2 := hide (HM1.out.later hb2); have HR2 := hide (HR1.out.later hb2); have HQ2 := hide (HQ1.out.later hb2); have HF2 := hide (HF1.out.later hb2); have HA2 := hide (HA1.out.trans (hb2.mono HA1.out.size)); have hz2 := hb2.size; have HL2 := hide (Nat.lt_of_lt_of_le HL1.out hb2.size); clear hb2 HP1 HM1 HR1 HQ1 HF1 HA1 HL1))
  clear f0 HMC1
  have f0 := HF2.out.cell 0
  simp at f0
  have HCP2 := hide (HCP.out _ HA2.out)
  clear HCP
  go_wp2_with (refine wpList_load_blk HP2.out Try.underlying25 rfl Try.sizeNode rfl rfl rfl ?_)
  refine HCP2.out.mono ?_
  rintro e w3 ⟨lab, lv2, vv2, nv2, hv2, rfl, hnw, hlab, hb3⟩
  obtain ⟨lo2, lc2, hs1⟩ := owns_shapeK hnw.log.1
  obtain ⟨vo2, vc2, hs2⟩ := owns_shapeK hnw.vot.1
  obtain ⟨no2, nc2, hs3⟩ := owns_shapeK hnw.nxt.1
  obtain ⟨ho2, hc2', hs4⟩ := owns_shapeK hnw.hav.1
  subst hs1 hs2 hs3 hs4
  have HD0 := hide hnw.layD
  unfold ndA at HD0
  have hNB := below_allocG w3 (.cells #[.int .i64 n, .int .i64 id, .int .i64 te, .int .i64 vo, .slice lo2 lo.length lc2, .int .i64 ro, .int .i64 co, .slice vo2 vs.length vc2, .slice no2 ns.length nc2, .slice ho2 hs.length hc2'] 25)
  have hbB := hb3.trans (hNB.mono hb3.size)
  have HP3 := hide (HP2.out.later hbB)
  have HM3 := hide (HM2.out.later hbB)
  have HR3 := hide (HR2.out.later hbB)
  have HQ3 := hide (HQ2.out.later hbB)
  have HF3 := hide (HF2.out.later hbB)
  have HA3 := hide (HA2.out.trans (hbB.mono HA2.out.size))
  have HLY := hide (show w1.heap.size < w3.heap.size from Nat.lt_of_lt_of_le HL2.out hb3.size)
  have HLB := hide (show ∀ g, g ≤ w1.heap.size → labTo lab (some w3.heap.size) 5 g = 0 from fun g hg => by
    unfold labTo
    rw [if_neg (fun q => by simp at q; have := HLY.out; omega)]
    exact hlab g (by have := HL2.out; omega))
  have HYS := hide (show w3.heap.size < (w3.alloc (.cells #[.int .i64 n, .int .i64 id, .int .i64 te, .int .i64 vo, .slice lo2 lo.length lc2, .int .i64 ro, .int .i64 co, .slice vo2 vs.length vc2, .slice no2 ns.length nc2, .slice ho2 hs.length hc2'] 25)).heap.size by simp)
  clear hnw hlab hb3 hNB hbB HP2 HM2 HR2 HQ2 HF2 HA2 HCP2 f0 HL2
  dsimp only at HD0 ⊢
  go_upto_region 7 with fail
  generalize hWB : (w3.alloc (.cells #[.int .i64 n, .int .i64 id, .int .i64 te, .int .i64 vo, .slice lo2 lo.length lc2, .int .i64 ro, .int .i64 co, .slice vo2 vs.length vc2, .slice no2 ns.length nc2, .slice ho2 hs.length hc2'] 25)) = WB at HD0 HP3 HM3 HR3 HQ3 HF3 HA3 HYS ⊢
  clear hWB
  have p1 := HP3.out.cell 1
  have p2 := HP3.out.cell 2
  have m3 := HM3.out.cell 3
  have pl := HP3.out.lt
  have ml := HM3.out.lt
  simp at p1 p2 m3
  go_upto_if 42 with fail
  generalize hTB : decide (te < mt) = TB
  have HTB := hide hTB
  clear hTB
  go_cut [8] (fun yv wc => yv = .pointer (some ⟨w3.heap.size, 0, none⟩) ∧ ∃ lab lv5 vv5 nv5 hv5, Dm wc lab w3.heap.size (Nd.hear ⟨n, id, te, vo, lo, ro, co, vs, ns, hs⟩ mt) lv5 vv5 nv5 hv5 ∧ (∀ g, g ≤ w1.heap.size → lab g = 0) ∧ Blk wc (w.heap.size) 25 #[.int .i64 n, .int .i64 id, .int .i64 te, .int .i64 vo, .slice ao lo.length cap, .int .i64 ro, .int .i64 co, .slice bo vs.length cap2, .slice no ns.length cap3, .slice ho hs.length cap4] ∧ Blk wc (w.heap.size + 1) 44 #[.int .i64 ki, .int .i64 fr, .int .i64 dt, .int .i64 mt, .int .i64 ma, .int .i64 mb, .int .i64 mc, .slice eo es.length ec, .bool ok] ∧ Blk wc (w.heap.size + 1 + 1) 25 #[.int .i64 0, .int .i64 0, .int .i64 0, .int .i64 0, .slice none 0 0, .int .i64 0, .int .i64 0, .slice none 0 0, .slice none 0 0, .slice none 0 0] ∧ Blk wc (w.heap.size + 1 + 1 + 1) 30 #[.int .i64 0, .int .i64 0] ∧ Blk wc w1.heap.size 30 #[.int .i64 0, .int .i64 0] ∧ Below w.heap.size w wc)
  case first =>
    as_aux_lemma =>
      cases TB
      case false =>
        have htm := of_decide_eq_false HTB.out
        have HHE := hide (show Nd.hear ⟨n, id, te, vo, lo, ro, co, vs, ns, hs⟩ mt = ⟨n, id, te, vo, lo, ro, co, vs, ns, hs⟩ from if_neg htm)
        clear htm
        go_wp2_with fail
        go_meet
        case rel => exact ⟨rfl, _, _, _, _, _, by rw [HHE.out]; exact HD0.out, HLB.out, HP3.out, HM3.out, HR3.out, HQ3.out, HF3.out, HA3.out⟩
      have htm := of_decide_eq_true HTB.out
      have HHE := hide (show Nd.hear ⟨n, id, te, vo, lo, ro, co, vs, ns, hs⟩ mt = ⟨n, id, mt, 0, lo, 0, co, [], [], []⟩ from if_pos htm)
      clear htm
      have HFO3 := hide (HFO.out _ HA3.out)
      have HY3 := hide HD0.out.blk
      unfold ndA at HY3
      clear HFO
      go_upto_region 9 with (first
        | (refine wpList_load_blk HP3.out Try.underlying25 rfl Try.sizeNode rfl rfl rfl ?_)
        | (go_at_call 46; refine HFO3.out.mono ?_; rintro e w4 ⟨lv6, rfl, how6, hb4⟩; obtain ⟨lo6, lc6, hs6⟩ := owns_shapeK how6; subst hs6; have HP4 := hide (HP3.out.later hb4); have HM4 := hide (HM3.out.later hb4); have HR4 := hide (HR3.out.later hb4); have HQ4 := hide (HQ3.out.later hb4); have HF4 := hide (HF3.out.later hb4); have HY4 := hide (HY3.out.later hb4); have HA4 := hide (HA3.out.trans (hb4.mono HA3.out.size)); have HO4 := hide how6; have hz4 := hb4.size; clear hb4 how6)
        | (refine wpList_store_blk rfl rfl rfl rfl HY4.out rfl Try.sizeNode rfl ?_; intro w5 hY5 hg5; have HY5 := hide hY5; have hne := HLY.out; have HP5 := hide (HP4.out.grown hg5 (by simp; have := HS1.out; omega)); have HM5 := hide (HM4.out.grown hg5 (by simp; have := HS1.out; omega)); have HR5 := hide (HR4.out.grown hg5 (by simp; have := HS1.out; omega)); have HQ5 := hide (HQ4.out.grown hg5 (by simp; have := HS1.out; omega)); have HF5 := hide (HF4.out.grown hg5 (by simp; omega)); have HA5 := hide (below_grownO HA4.out hg5 (fun k hk => by cases hk; have := HS1.out; omega) HA4.out.size); have HO5 := hide (owns_grownO HO4.out hg5 (.inr (fun q => by have := (HO4.out.lt _ q).1; have := HYS.out; omega))); clear hY5 hg5))
      clear p1 p2 m3 pl ml HP3 HM3 HR3 HQ3 HF3 HA3 HY3 HFO3 HP4 HM4 HR4 HQ4 HF4 HA4 HO4 HY4 HD0 HLB
      have m3 := HM5.out.cell 3
      have ml := HM5.out.lt
      simp at m3
      go_upto_region 11 with (first
        | (refine wpList_store_int (k := 2) rfl rfl rfl rfl HY5.out rfl Try.sizeIntR ?_; intro w6 hY6 hg6; have HY6 := hide hY6; have HP6 := hide (HP5.out.grown hg6 (by simp; have := HS1.out; omega)); have HM6 := hide (HM5.out.grown hg6 (by simp; have := HS1.out; omega)); have HR6 := hide (HR5.out.grown hg6 (by simp; have := HS1.out; omega)); have HQ6 := hide (HQ5.out.grown hg6 (by simp; have := HS1.out; omega)); have HF6 := hide (HF5.out.grown hg6 (by simp; omega)); have HA6 := hide (below_grownO HA5.out hg6 (fun k hk => by cases hk; have := HS1.out; omega) HA5.out.size); have HO6 := hide (owns_grownO HO5.out hg6 (.inr (fun q => by have := (HO5.out.lt _ q).1; have := HYS.out; omega))); clear hY6 hg6)
        | (refine wpList_store_int (k := 3) rfl rfl rfl rfl HY6.out rfl Try.sizeIntR ?_; intro w7 hY7 hg7; have HY7 := hide hY7; have HP7 := hide (HP6.out.grown hg7 (by simp; have := HS1.out; omega)); have HM7 := hide (HM6.out.grown hg7 (by simp; have := HS1.out; omega)); have HR7 := hide (HR6.out.grown hg7 (by simp; have := HS1.out; omega)); have HQ7 := hide (HQ6.out.grown hg7 (by simp; have := HS1.out; omega)); have HF7 := hide (HF6.out.grown hg7 (by simp; omega)); have HA7 := hide (below_grownO HA6.out hg7 (fun k hk => by cases hk; have := HS1.out; omega) HA6.out.size); have HO7 := hide (owns_grownO HO6.out hg7 (.inr (fun q => by have := (HO6.out.lt _ q).1; have := HYS.out; omega))); clear hY7 hg7))
      go_meet
      case rel =>
        refine ⟨rfl, _, _, _, _, _, by rw [HHE.out]; exact Dm.ofLog (base := WB.heap.size) HY7.out HO7.out HYS.out rfl rfl rfl, fun g hg => ?_, HP7.out, HM7.out, HR7.out, HQ7.out, HF7.out, HA7.out⟩
        have hne := HLY.out
        have hys := HYS.out
        show (if _ then _ else _) = _
        rw [if_neg (fun q => by have := (HO7.out.lt g q).1; omega), if_neg (by omega)]
  case rest =>
    as_aux_lemma =>
      obtain ⟨wk, hwk⟩ : ∃ wk, wk = wc := ⟨_, rfl⟩
      subst hwk
      obtain ⟨rfl, lab5, lv5, vv5, nv5, hv5, hdm, hlb5, hP5, hM5, hR5, hQ5, hF5, hA5⟩ := hcut
      have HTK := hide (show Nd.take ⟨n, id, te, vo, lo, ro, co, vs, ns, hs⟩ ⟨ki, fr, dt, mt, ma, mb, mc, es, ok⟩ = t3N (Nd.hear ⟨n, id, te, vo, lo, ro, co, vs, ns, hs⟩ mt) ⟨ki, fr, dt, mt, ma, mb, mc, es, ok⟩ by unfold Nd.take; rw [if_neg (fun q => absurd (show (3 : Int) = 1 from HKI.out.symm.trans q) (by decide)), if_neg (fun q => absurd (show (3 : Int) = 2 from HKI.out.symm.trans q) (by decide)), if_pos HKI.out])
      have HSD := hide (show Nd.sends ⟨n, id, te, vo, lo, ro, co, vs, ns, hs⟩ ⟨ki, fr, dt, mt, ma, mb, mc, es, ok⟩ = t3M (Nd.hear ⟨n, id, te, vo, lo, ro, co, vs, ns, hs⟩ mt) ⟨ki, fr, dt, mt, ma, mb, mc, es, ok⟩ by unfold Nd.sends; rw [if_neg (fun q => absurd (show (3 : Int) = 1 from HKI.out.symm.trans q) (by decide)), if_neg (fun q => absurd (show (3 : Int) = 2 from HKI.out.symm.trans q) (by decide)), if_pos HKI.out])
      have HEF := hide (hear_fix ⟨n, id, te, vo, lo, ro, co, vs, ns, hs⟩ mt)
      have HFH := hide (HFX.out.hear HFM.out.t2)
      have HTT := hide (hear_term (x := ⟨n, id, te, vo, lo, ro, co, vs, ns, hs⟩) (t := mt)).1
      generalize hH : Nd.hear ⟨n, id, te, vo, lo, ro, co, vs, ns, hs⟩ mt = H at hdm HTK HSD HEF HFH HTT
      dsimp only at HEF HFM
      have HHH := hide hH
      obtain ⟨lo5, lc5, hs1⟩ := owns_shapeK hdm.log.1
      obtain ⟨vo5, vc5, hs2⟩ := owns_shapeK hdm.vot.1
      obtain ⟨no5, nc5, hs3⟩ := owns_shapeK hdm.nxt.1
      obtain ⟨ho5, hc5, hs4⟩ := owns_shapeK hdm.hav.1
      subst hs1 hs2 hs3 hs4
      clear hH HD0 HP3 HM3 HR3 HQ3 HF3 HA3 HYS p1 p2 m3 pl ml HFO HLB HTB
      have hN := below_allocG wk (.cells #[.int .i64 0, .int .i64 id, .int .i64 fr, .int .i64 H.term, .int .i64 0, .int .i64 0, .int .i64 0, .slice none 0 0, .bool false] 44)
      have HD6 := hide (hdm.below hN)
      have HM6 := hide (hM5.later hN)
      have HR6 := hide (hR5.later hN)
      have HQ6 := hide (hQ5.later hN)
      have HF6 := hide (hF5.later hN)
      have HA6 := hide (hA5.trans (hN.mono hA5.size))
      have HK6 := hide (Blk.new wk 44 #[.int .i64 0, .int .i64 id, .int .i64 fr, .int .i64 H.term, .int .i64 0, .int .i64 0, .int .i64 0, .slice none 0 0, .bool false])
      have HLK := hide (show lab5 wk.heap.size = 0 from hdm.ok _ (Nat.le_refl _))
      have HLB5 := hide hlb5
      have HYK := hide (show w3.heap.size < wk.heap.size from hdm.blk.lt)
      have hY5 := hdm.blk
      unfold ndA at hY5
      have y2 := hY5.cell 2
      have yl := hY5.lt
      have p1 := hP5.cell 1
      have pl := hP5.lt
      have m0 := hM5.cell 0
      have m1 := hM5.cell 1
      have ml := hM5.lt
      simp at y2 p1 m0 m1
      clear hdm hlb5 hP5 hM5 hR5 hQ5 hF5 hA5 hN hY5
      go_upto_region 12 with fail
      generalize hW6 : wk.alloc (.cells #[.int .i64 0, .int .i64 id, .int .i64 fr, .int .i64 H.term, .int .i64 0, .int .i64 0, .int .i64 0, .slice none 0 0, .bool false] 44) = W6 at HD6 HM6 HR6 HQ6 HF6 HA6 HK6 ⊢
      clear hW6 y2 yl p1 pl m0 m1 ml
      have m0 := HM6.out.cell 0
      have ml := HM6.out.lt
      simp at m0
      have hi1 := HS1.out
      have hi2 := HLY.out
      have hi3 := HYK.out
      go_upto_region 31 with (refine wpList_store_int (B := wk.heap.size) (k := 0) (q := .i64) (n := 4) rfl rfl (by kernel_rfl) (by kernel_rfl) HK6.out (by kernel_rfl) Try.sizeIntR ?_; intro w7 hK7 hg7; have HK7 := hide (show Blk w7 wk.heap.size 44 #[.int .i64 4, .int .i64 id, .int .i64 fr, .int .i64 H.term, .int .i64 0, .int .i64 0, .int .i64 0, .slice none 0 0, .bool false] from hK7); have HD7 := hide (HD6.out.off0 hg7 HLK.out); have HM7 := hide (HM6.out.grown hg7 (by simp; omega)); have HR7 := hide (HR6.out.grown hg7 (by simp; omega)); have HQ7 := hide (HQ6.out.grown hg7 (by simp; omega)); have HF7 := hide (HF6.out.grown hg7 (by simp; omega)); have HA7 := hide (below_grownO HA6.out hg7 (fun k hk => by cases hk; omega) HA6.out.size); clear hK7 hg7)
      clear HK6 HD6 HM6 HR6 HQ6 HF6 HA6 m0 ml kd1 kd2 kd3
      have HT3 := hide (@t3_eq H ⟨ki, fr, dt, mt, ma, mb, mc, es, ok⟩)
      dsimp only at HT3
      have HTN1 : Hid (takN ⟨n, id, te, vo, lo, ro, co, vs, ns, hs⟩ ⟨ki, fr, dt, mt, ma, mb, mc, es, ok⟩ = t3N H ⟨ki, fr, dt, mt, ma, mb, mc, es, ok⟩) := hide (HTN.out.trans HTK.out)
      have HTM1 : Hid (takM ⟨n, id, te, vo, lo, ro, co, vs, ns, hs⟩ ⟨ki, fr, dt, mt, ma, mb, mc, es, ok⟩ = t3M H ⟨ki, fr, dt, mt, ma, mb, mc, es, ok⟩) := hide (HTM.out.trans HSD.out)
      have HAN : Hid (∀ k b a, ansM H ⟨ki, fr, dt, mt, ma, mb, mc, es, ok⟩ k b a = [⟨k, id, fr, H.term, a, 0, 0, [], b⟩]) := hide (fun k b a => by unfold ansM; rw [HEF.out.2.1])
      clear HTN HTM HTK HSD
      have hY7 := HD7.out.blk
      unfold ndA at hY7
      have HBB := hide hY7
      have y2 := hY7.cell 2
      have y5 := hY7.cell 5
      have yl := hY7.lt
      have m3 := HM7.out.cell 3
      have ml := HM7.out.lt
      simp at y2 y5 m3
      clear hY7
      go_upto_if 169 with fail
      generalize hP : decide (mt < H.term) = PB
      cases PB
      case true =>
        have hq := of_decide_eq_true hP
        have hk3 : t3K H ⟨ki, fr, dt, mt, ma, mb, mc, es, ok⟩ = .old := HT3.out.trans (if_pos hq)
        have HN_ := hide (HTN1.out.trans (t3_old hk3).1)
        have HM_ := hide ((HTM1.out.trans (t3_old hk3).2).trans (HAN.out _ _ _))
        clear hP hq hk3 HT3 HTN1 HTM1 y2 y5 yl m3 ml
        go_upto_region 32 with fail
        as_aux_lemma =>
          refine wp_ret7 (dN := _) (dM := _) (dF := _) HD7.out.blk HK7.out HF7.out HR7.out HQ7.out (by have := HS1.out; have := HLY.out; have := HYK.out; omega) (by have := HS1.out; have := HLY.out; have := HYK.out; omega) (by have := HS1.out; have := HLY.out; have := HYK.out; omega) (by have := HS1.out; have := HLY.out; have := HYK.out; omega) (by have := HS1.out; have := HLY.out; have := HYK.out; omega) (by have := HS1.out; have := HLY.out; have := HYK.out; omega) (by have := HS1.out; have := HLY.out; have := HYK.out; omega) (by kernel_rfl) (by kernel_rfl) rfl ⟨by kernel_rfl, by kernel_rfl, by kernel_rfl⟩ ⟨by kernel_rfl, by kernel_rfl, by kernel_rfl⟩ (by kernel_rfl) (by kernel_rfl) (by kernel_rfl) (by kernel_rfl) (by kernel_rfl) (by kernel_rfl) ⟨⟨rfl, rfl, rfl⟩, rfl, rfl, rfl, rfl⟩ ⟨⟨rfl, rfl, rfl⟩, rfl, rfl, rfl, rfl⟩ (fun _ _ _ _ h => h) (fun _ _ _ _ h => h) (fun _ _ _ _ h => h) (by kernel_rfl) (by kernel_rfl) (by kernel_rfl) (by kernel_rfl) (by kernel_rfl) (by kernel_rfl) (by kernel_rfl) (by kernel_rfl) ⟨⟨rfl, rfl⟩, ⟨by decide, by decide⟩, ⟨by decide, by decide⟩, by decide, by decide⟩ (by kernel_rfl) (by kernel_rfl) (by kernel_rfl) Try.underlying25 rfl Try.sizeNode Try.underlying44 rfl Try.sizeMail Try.underlying30 rfl Try.sizeFaultR Try.underlying32 (n := 9) (z := .agg #[.int .i64 0, .int .i64 0, .int .i64 0, .int .i64 0, .int .i64 0, .int .i64 0, .int .i64 0, .slice none 0 0, .bool false]) (by kernel_rfl) (by decide) (by decide) (by kernel_rfl) rfl rfl rfl rfl ⟨rfl, rfl, rfl⟩ (by kernel_rfl) ?_
          intro k wm w9 a9 hka hkv hgm hg9 hR9 hQ9 hk hK9
          have HR9 := hide hR9
          have HQ9 := hide hQ9
          have HD9 := hide (HD7.out.ret hgm hg9 (HLB5.out _ (by have := HS1.out; omega)) (HLB5.out _ (by have := HS1.out; omega)))
          have HA9 := hide (below_ret HA7.out hgm hg9 (by omega) (by omega) HA7.out.size)
          have HK9 := hide hK9
          clear hK9
          clear hR9 hQ9 hgm hg9
          unfold Exit.then
          rename_i hk9
          refine hk9 _ _ (wp_ret ?_)
          clear hk9
          refine bodyPost_ret (results3_ctc (v2 := .slice (some ⟨k, 0, none⟩) 1 1) Try.results25 ((hka.tmps _ (by kernel_rfl)).trans (by kernel_rfl)) hkv ((hka.tmps _ (by kernel_rfl)).trans (by kernel_rfl)) (run_loadVar_blk HR9.out Try.underlying25 rfl Try.sizeNode) (run_loadVar_blk HQ9.out Try.underlying30 rfl Try.sizeFaultR)) (hka.defers.trans rfl) ?_
          exact TnTo.fin HN_.out HM_.out HTF.out HD9.out.rd (RdM.oneB (m := ⟨4, id, fr, H.term, 0, 0, 0, [], false⟩) rfl HK9.out) HA9.out
      case false =>
        have HT3 := hide (HT3.out.trans (if_neg (of_decide_eq_false hP)))
        clear hP
        by_cases hr : H.role = 2
        case pos =>
          have e1 : (H.role == 2) = true := by simp [hr]
          have hk3 : t3K H ⟨ki, fr, dt, mt, ma, mb, mc, es, ok⟩ = .leads := HT3.out.trans (if_pos hr)
          have HN_ := hide (HTN1.out.trans (t3_leads hk3).1)
          have HM_ := hide (HTM1.out.trans (t3_leads hk3).2)
          clear hr hk3 HT3 HTN1 HTM1
          go_upto_region 34 with fail
          clear y2 y5 yl m3 ml
          as_aux_lemma =>
            refine wp_ret5 (dN := _) (dF := _) (v3 := .slice none 0 0) HD7.out.blk HF7.out HR7.out HQ7.out (by have := HS1.out; have := HLY.out; have := HYK.out; omega) (by have := HS1.out; have := HLY.out; have := HYK.out; omega) (by have := HS1.out; have := HLY.out; have := HYK.out; omega) (by have := HS1.out; have := HLY.out; have := HYK.out; omega) (by have := HS1.out; have := HLY.out; have := HYK.out; omega) (by kernel_rfl) (by kernel_rfl) rfl (by kernel_rfl) (by kernel_rfl) (by kernel_rfl) (by kernel_rfl) (by kernel_rfl) (by kernel_rfl) (by kernel_rfl) (by kernel_rfl) ⟨⟨rfl, rfl⟩, rfl, rfl, rfl⟩ ⟨⟨rfl, rfl⟩, rfl, rfl, rfl⟩ (fun _ _ _ _ h => h) (fun _ _ _ _ h => h) (by kernel_rfl) (by kernel_rfl) (by kernel_rfl) (by kernel_rfl) (by kernel_rfl) (by kernel_rfl) (by kernel_rfl) (by kernel_rfl) (by kernel_rfl) Try.underlying25 rfl Try.sizeNode Try.underlying30 rfl Try.sizeFaultR rfl rfl rfl rfl ?_
            intro wm w9 hgm hg9 hR9 hQ9
            have HR9 := hide hR9
            have HQ9 := hide hQ9
            have HD9 := hide (HD7.out.ret hgm hg9 (HLB5.out _ (by have := HS1.out; omega)) (HLB5.out _ (by have := HS1.out; omega)))
            have HA9 := hide (below_ret HA7.out hgm hg9 (by omega) (by omega) HA7.out.size)
            clear hR9 hQ9 hgm hg9
            unfold Exit.then
            rename_i hk9
            refine hk9 _ _ (wp_ret ?_)
            clear hk9
            refine bodyPost_ret (results3_ctc (v2 := .slice none 0 0) Try.results25 (by kernel_rfl) (by kernel_rfl) (by kernel_rfl) (run_loadVar_blk HR9.out Try.underlying25 rfl Try.sizeNode) (run_loadVar_blk HQ9.out Try.underlying30 rfl Try.sizeFaultR)) rfl ?_
            exact TnTo.fin HN_.out HM_.out HTF.out HD9.out.rd (RdM.nilW w9) HA9.out
        have e1 : (H.role == 2) = false := by simp [hr]
        have HT3 := hide (HT3.out.trans (if_neg hr))
        have HFO7 := hide (Follower_any H (.slice lo5 H.log.length lc5) (.slice vo5 H.votes.length vc5) (.slice no5 H.next.length nc5) (.slice ho5 H.hav.length hc5) w7 HD7.out.rd (by have := HFH.out.loglen; omega))
        unfold ndV ndA at HFO7
        dsimp only [Nd.follow] at HFO7
        clear hr y2 m3
        go_upto_region 36 with (first
          | (refine wpList_load_blk HBB.out Try.underlying25 rfl Try.sizeNode rfl rfl rfl ?_)
          | (go_at_call 46; refine HFO7.out.mono ?_; rintro e w8 ⟨lv8, rfl, how8, hb8⟩; obtain ⟨lo8, lc8, hs8⟩ := owns_shapeK how8; subst hs8; have HY8 := hide (HBB.out.later hb8); have HO8 := hide how8; have HM8 := hide (HM7.out.later hb8); have HR8 := hide (HR7.out.later hb8); have HQ8 := hide (HQ7.out.later hb8); have HF8 := hide (HF7.out.later hb8); have HK8 := hide (HK7.out.later hb8); have HA8 := hide (HA7.out.trans (hb8.mono HA7.out.size)); have hz8 := hb8.size; clear hb8 how8)
          | (refine wpList_store_blk rfl rfl rfl rfl HY8.out rfl Try.sizeNode rfl ?_; intro w9 hY9 hg9; have HY9 := hide (show Blk w9 w3.heap.size 25 #[.int .i64 H.n, .int .i64 H.id, .int .i64 H.term, .int .i64 H.vote, .slice lo8 H.log.length lc8, .int .i64 0, .int .i64 H.com, .slice none 0 0, .slice none 0 0, .slice none 0 0] from hY9); have HO9 := hide (owns_grownO HO8.out hg9 (.inr (fun q => by have := (HO8.out.lt _ q).1; have := HBB.out.lt; omega))); have HM9 := hide (HM8.out.grown hg9 (by simp; have := HS1.out; have := HLY.out; have := HYK.out; omega)); have HR9 := hide (HR8.out.grown hg9 (by simp; have := HS1.out; have := HLY.out; have := HYK.out; omega)); have HQ9 := hide (HQ8.out.grown hg9 (by simp; have := HS1.out; have := HLY.out; have := HYK.out; omega)); have HF9 := hide (HF8.out.grown hg9 (by simp; have := HS1.out; have := HLY.out; have := HYK.out; omega)); have HK9 := hide (HK8.out.grown hg9 (by simp; have := HS1.out; have := HLY.out; have := HYK.out; omega)); have HA9 := hide (below_grownO HA8.out hg9 (fun k hk => by cases hk; have := HS1.out; have := HLY.out; have := HYK.out; omega) HA8.out.size); clear hY9 hg9))
        have HBS := hide HBB.out.lt
        have HBS2 := hide HK7.out.lt
        have HN9 : Hid (AnsN w9 w7.heap.size H.follow (.slice lo8 H.log.length lc8) (.slice none 0 0) (.slice none 0 0) (.slice none 0 0)) := hide ⟨⟨RdG.ofOwns HO9.out, RdG.nil _, RdG.nil _, RdG.nil _⟩, New.owns HO9.out, New.nil _, New.nil _, New.nil _⟩
        clear HD7 HM7 HR7 HQ7 HF7 HK7 HA7 HY8 HO8 HO9 HM8 HR8 HQ8 HF8 HK8 HA8 HFO7 HBB y5 yl ml e1
        have y4 := HY9.out.cell 4
        have yl := HY9.out.lt
        have m4 := HM9.out.cell 4
        have m5 := HM9.out.cell 5
        have m7 := HM9.out.cell 7
        have ml := HM9.out.lt
        simp at y4 m4 m5 m7
        have HPL := hide (PutLog_any (.slice lo8 H.log.length lc8) (.slice eo es.length ec) H.log es ma mb w9 HN9.out.rd.log (HEV.out.below HA9.out))
        obtain ⟨PX, hPX⟩ : ∃ PX, putX H.log ma mb es = PX := ⟨_, rfl⟩
        have HPX := hide hPX
        rw [hPX] at HPL HT3
        obtain ⟨p, q⟩ := PX
        obtain ⟨PI, hPI⟩ : ∃ PI, putI H.log ma mb es = PI := ⟨_, rfl⟩
        have HPI := hide hPI
        rw [hPI] at HPL HT3
        obtain ⟨PL, hPL⟩ : ∃ PL, putL H.log ma mb es = PL := ⟨_, rfl⟩
        have HPLE := hide hPL
        rw [hPL] at HPL HT3
        unfold flt at HPL
        dsimp only at HPL HT3
        clear hPX hPI hPL
        go_upto_region 37 with (go_at_call 54; refine HPL.out.mono ?_; rintro e w10 ⟨v10, rfl, hr10, hb10⟩; obtain ⟨ao10, cap10, rfl, hc10, hc11⟩ := hr10.shape; have HN10 := hide (HN9.out.below hb10); have HRL := hide hr10; have HLC := hide hc11; have HY10 := hide (HY9.out.later hb10); have HM10 := hide (HM9.out.later hb10); have HR10 := hide (HR9.out.later hb10); have HQ10 := hide (HQ9.out.later hb10); have HF10 := hide (HF9.out.later hb10); have HK10 := hide (HK9.out.later hb10); have HA10 := hide (HA9.out.trans (hb10.mono HA9.out.size)); have hz10 := hb10.size; clear hb10 hr10 hc10 hc11)
        have hNF := below_allocG w10 (.cells #[.int .i64 p, .int .i64 q] 30)
        have HF12 := hide (Blk.new w10 30 #[.int .i64 p, .int .i64 q])
        have HN11 := hide (HN10.out.below hNF)
        have HRL1 := hide (HRL.out.below hNF)
        have HY11 := hide (HY10.out.later hNF)
        have HM11 := hide (HM10.out.later hNF)
        have HR11 := hide (HR10.out.later hNF)
        have HQ11 := hide (HQ10.out.later hNF)
        have HF11 := hide (HF10.out.later hNF)
        have HK11 := hide (HK10.out.later hNF)
        have HA11 := hide (HA10.out.trans (hNF.mono HA10.out.size))
        clear HPL hNF HN10 HN9 HRL HY10 HY9 HM9 HR9 HQ9 HF9 HK9 HA9 HM10 HR10 HQ10 HF10 HK10 HA10 y4 yl m4 m5 m7 ml
        generalize hW11 : (w10.alloc (.cells #[.int .i64 p, .int .i64 q] 30)) = W11 at HN11 HRL1 HY11 HM11 HR11 HQ11 HF11 HK11 HA11 HF12 ⊢
        have f0 := HF12.out.cell 0
        have fl := HF12.out.lt
        simp at f0
        clear hW11 HF12
        go_upto_if 196 with fail
        by_cases hp : p ≠ 0
        case pos =>
          have e1 : (p != 0) = true := by simp [hp]
          have hk3 : t3K H ⟨ki, fr, dt, mt, ma, mb, mc, es, ok⟩ = .none := HT3.out.trans (if_pos hp)
          have HN_ := hide (HTN1.out.trans (t3_none hk3).1)
          have HM_ := hide (HTM1.out.trans (t3_none hk3).2)
          clear hp hk3 HT3 HTN1 HTM1 f0 fl
          go_upto_region 38 with fail
          as_aux_lemma =>
            refine wp_ret5 (dN := _) (dF := _) (v3 := .slice none 0 0) HY11.out HF11.out HR11.out HQ11.out (by have := HS1.out; have := HLY.out; have := HYK.out; omega) (by have := HS1.out; have := HLY.out; have := HYK.out; omega) (by have := HS1.out; have := HLY.out; have := HYK.out; omega) (by have := HS1.out; have := HLY.out; have := HYK.out; omega) (by have := HS1.out; have := HLY.out; have := HYK.out; omega) (by kernel_rfl) (by kernel_rfl) rfl (by kernel_rfl) (by kernel_rfl) (by kernel_rfl) (by kernel_rfl) (by kernel_rfl) (by kernel_rfl) (by kernel_rfl) (by kernel_rfl) ⟨⟨rfl, rfl⟩, rfl, rfl, rfl⟩ ⟨⟨rfl, rfl⟩, rfl, rfl, rfl⟩ (fun _ _ _ _ h => h) (fun _ _ _ _ h => h) (by kernel_rfl) (by kernel_rfl) (by kernel_rfl) (by kernel_rfl) (by kernel_rfl) (by kernel_rfl) (by kernel_rfl) (by kernel_rfl) (by kernel_rfl) Try.underlying25 rfl Try.sizeNode Try.underlying30 rfl Try.sizeFaultR rfl rfl rfl rfl ?_
            intro wm w9 hgm hg9 hR9 hQ9
            have HR9 := hide hR9
            have HQ9 := hide hQ9
            have HN9 := hide ((HN11.out.offB hgm (by have := HS1.out; have := HLY.out; have := HBS.out; omega)).offB hg9 (by have := HS1.out; have := HLY.out; have := HBS.out; omega)).rd
            have HA9 := hide (below_ret HA11.out hgm hg9 (by omega) (by omega) HA11.out.size)
            clear hR9 hQ9 hgm hg9
            unfold Exit.then
            rename_i hk9
            refine hk9 _ _ (wp_ret ?_)
            clear hk9
            refine bodyPost_ret (results3_ctc (v2 := .slice none 0 0) Try.results25 (by kernel_rfl) (by kernel_rfl) (by kernel_rfl) (run_loadVar_blk HR9.out Try.underlying25 rfl Try.sizeNode) (run_loadVar_blk HQ9.out Try.underlying30 rfl Try.sizeFaultR)) rfl ?_
            exact TnTo.fin HN_.out HM_.out HTF.out HN9.out (RdM.nilW w9) HA9.out
        obtain rfl : p = 0 := Decidable.not_not.1 hp
        have HT3 := hide (HT3.out.trans (if_neg hp))
        clear hp f0 fl
        go_upto_if 200 with fail
        cases PI
        case false =>
          have hpe : PL = H.log := by rw [← HPLE.out]; exact put_not (by rw [HPX.out]) HPI.out
          have hk3 : t3K H ⟨ki, fr, dt, mt, ma, mb, mc, es, ok⟩ = .no := HT3.out.trans (by rw [hpe, if_neg (by rw [beg_self]; simp), if_pos rfl])
          have HN_ := hide (HTN1.out.trans (t3_no hk3).1)
          have HM0 := hide ((HTM1.out.trans (t3_no hk3).2).trans (HAN.out _ _ _))
          dsimp only at HM0
          have hma0 := HFM.out.a0
          have hma1 := HFM.out.a1
          have hll := HFH.out.loglen
          simp only at hma0 hma1
          obtain ⟨A1, hA1⟩ : ∃ z : Int, z = ma - 1 := ⟨_, rfl⟩
          have HA1 := hide hA1
          have hw1 : IntKind.i64.wrap (ma - 1) = A1 := by rw [hA1, IntKind.wrap_i64]; omega
          have HMA := hide (And.intro hma0 hll)
          have y4 := HY11.out.cell 4
          have yl := HY11.out.lt
          simp at y4
          clear hpe hk3 HT3 HTN1 HTM1 hma0 hma1 hll hA1
          go_upto_region 41 with (refine wpList_store_int (B := wk.heap.size) (k := 4) (q := .i64) (n := (H.log.length : Int)) rfl rfl (by kernel_rfl) (by kernel_rfl) HK11.out (by kernel_rfl) Try.sizeIntR ?_; intro w12 hK12 hg12; have HK12 := hide (show Blk w12 wk.heap.size 44 #[.int .i64 4, .int .i64 id, .int .i64 fr, .int .i64 H.term, .int .i64 (H.log.length : Int), .int .i64 0, .int .i64 0, .slice none 0 0, .bool false] from hK12); have HY12 := hide (HY11.out.grown hg12 (by simp; have := HYK.out; omega)); have HN12 := hide (HN11.out.offB hg12 (by have := HBS2.out; omega)); have HM12 := hide (HM11.out.grown hg12 (by simp; have := HS1.out; have := HLY.out; have := HYK.out; omega)); have HR12 := hide (HR11.out.grown hg12 (by simp; have := HS1.out; have := HLY.out; have := HYK.out; omega)); have HQ12 := hide (HQ11.out.grown hg12 (by simp; have := HS1.out; have := HLY.out; have := HYK.out; omega)); have HF12 := hide (HF11.out.grown hg12 (by simp; have := HS1.out; have := HLY.out; have := HYK.out; omega)); have HA12 := hide (below_grownO HA11.out hg12 (fun k hk => by cases hk; have := HS1.out; have := HLY.out; have := HYK.out; omega) HA11.out.size); clear hK12 hg12)
          have m4 := HM12.out.cell 4
          have ml := HM12.out.lt
          have b4 := HK12.out.cell 4
          have bl := HK12.out.lt
          simp at m4 b4
          clear y4 yl
          go_upto_if 210 with fail
          by_cases ha : A1 < H.log.length
          case neg =>
            have e2 : decide (A1 < (H.log.length : Int)) = false := decide_eq_false ha
            have HM_ := hide (show takM ⟨n, id, te, vo, lo, ro, co, vs, ns, hs⟩ ⟨ki, fr, dt, mt, ma, mb, mc, es, ok⟩ = [⟨4, id, fr, H.term, H.log.length, 0, 0, [], false⟩] by rw [HM0.out, show max 0 (min (ma - 1) (H.log.length : Int)) = H.log.length by have := HA1.out; omega])
            have hn0 : ¬ ((H.log.length : Int) < 0) := by omega
            have e3 : decide ((H.log.length : Int) < 0) = false := decide_eq_false hn0
            go_upto_region 45 with fail
            clear m4 ml b4 bl e2 e3 ha hn0
            as_aux_lemma =>
              refine wp_ret7 (dN := _) (dM := _) (dF := _) HY12.out HK12.out HF12.out HR12.out HQ12.out (by have := HS1.out; have := HLY.out; have := HYK.out; omega) (by have := HS1.out; have := HLY.out; have := HYK.out; omega) (by have := HS1.out; have := HLY.out; have := HYK.out; omega) (by have := HS1.out; have := HLY.out; have := HYK.out; omega) (by have := HS1.out; have := HLY.out; have := HYK.out; omega) (by have := HS1.out; have := HLY.out; have := HYK.out; omega) (by have := HS1.out; have := HLY.out; have := HYK.out; omega) (by kernel_rfl) (by kernel_rfl) rfl ⟨by kernel_rfl, by kernel_rfl, by kernel_rfl⟩ ⟨by kernel_rfl, by kernel_rfl, by kernel_rfl⟩ (by kernel_rfl) (by kernel_rfl) (by kernel_rfl) (by kernel_rfl) (by kernel_rfl) (by kernel_rfl) ⟨⟨rfl, rfl, rfl⟩, rfl, rfl, rfl, rfl⟩ ⟨⟨rfl, rfl, rfl⟩, rfl, rfl, rfl, rfl⟩ (fun _ _ _ _ h => h) (fun _ _ _ _ h => h) (fun _ _ _ _ h => h) (by kernel_rfl) (by kernel_rfl) (by kernel_rfl) (by kernel_rfl) (by kernel_rfl) (by kernel_rfl) (by kernel_rfl) (by kernel_rfl) ⟨⟨rfl, rfl⟩, ⟨by decide, by decide⟩, ⟨by decide, by decide⟩, by decide, by decide⟩ (by kernel_rfl) (by kernel_rfl) (by kernel_rfl) Try.underlying25 rfl Try.sizeNode Try.underlying44 rfl Try.sizeMail Try.underlying30 rfl Try.sizeFaultR Try.underlying32 (n := 9) (z := .agg #[.int .i64 0, .int .i64 0, .int .i64 0, .int .i64 0, .int .i64 0, .int .i64 0, .int .i64 0, .slice none 0 0, .bool false]) (by kernel_rfl) (by decide) (by decide) (by kernel_rfl) rfl rfl rfl rfl ⟨rfl, rfl, rfl⟩ (by kernel_rfl) ?_
              intro k wm w9 a9 hka hkv hgm hg9 hR9 hQ9 hk hK9
              have HR9 := hide hR9
              have HQ9 := hide hQ9
              have HN9 := hide ((HN12.out.offB hgm (by have := HS1.out; have := HLY.out; have := HBS.out; omega)).offB hg9 (by have := HS1.out; have := HLY.out; have := HBS.out; omega)).rd
              have HA9 := hide (below_ret HA12.out hgm hg9 (by omega) (by omega) HA12.out.size)
              have HK9 := hide hK9
              clear hK9
              clear hR9 hQ9 hgm hg9
              unfold Exit.then
              rename_i hk9
              refine hk9 _ _ (wp_ret ?_)
              clear hk9
              refine bodyPost_ret (results3_ctc (v2 := .slice (some ⟨k, 0, none⟩) 1 1) Try.results25 ((hka.tmps _ (by kernel_rfl)).trans (by kernel_rfl)) hkv ((hka.tmps _ (by kernel_rfl)).trans (by kernel_rfl)) (run_loadVar_blk HR9.out Try.underlying25 rfl Try.sizeNode) (run_loadVar_blk HQ9.out Try.underlying30 rfl Try.sizeFaultR)) (hka.defers.trans rfl) ?_
              exact TnTo.fin HN_.out HM_.out HTF.out HN9.out (RdM.oneB (m := ⟨4, id, fr, H.term, H.log.length, 0, 0, [], false⟩) rfl HK9.out) HA9.out
          have e2 : decide (A1 < (H.log.length : Int)) = true := decide_eq_true ha
          go_upto_region 43 with (refine wpList_store_int (B := wk.heap.size) (k := 4) (q := .i64) (n := A1) rfl rfl (by kernel_rfl) (by kernel_rfl) HK12.out (by kernel_rfl) Try.sizeIntR ?_; intro w13 hK13 hg13; have HK13 := hide (show Blk w13 wk.heap.size 44 #[.int .i64 4, .int .i64 id, .int .i64 fr, .int .i64 H.term, .int .i64 (A1 : Int), .int .i64 0, .int .i64 0, .slice none 0 0, .bool false] from hK13); have HY13 := hide (HY12.out.grown hg13 (by simp; have := HYK.out; omega)); have HN13 := hide (HN12.out.offB hg13 (by have := HBS2.out; omega)); have HM13 := hide (HM12.out.grown hg13 (by simp; have := HS1.out; have := HLY.out; have := HYK.out; omega)); have HR13 := hide (HR12.out.grown hg13 (by simp; have := HS1.out; have := HLY.out; have := HYK.out; omega)); have HQ13 := hide (HQ12.out.grown hg13 (by simp; have := HS1.out; have := HLY.out; have := HYK.out; omega)); have HF13 := hide (HF12.out.grown hg13 (by simp; have := HS1.out; have := HLY.out; have := HYK.out; omega)); have HA13 := hide (below_grownO HA12.out hg13 (fun k hk => by cases hk; have := HS1.out; have := HLY.out; have := HYK.out; omega) HA12.out.size); clear hK13 hg13)
          clear m4 ml b4 bl e2
          have b4 := HK13.out.cell 4
          have bl := HK13.out.lt
          simp at b4
          go_upto_if 217 with fail
          by_cases hb : A1 < 0
          case neg =>
            have e3 : decide (A1 < 0) = false := decide_eq_false hb
            have HM_ := hide (show takM ⟨n, id, te, vo, lo, ro, co, vs, ns, hs⟩ ⟨ki, fr, dt, mt, ma, mb, mc, es, ok⟩ = [⟨4, id, fr, H.term, A1, 0, 0, [], false⟩] by rw [HM0.out, show max 0 (min (ma - 1) (H.log.length : Int)) = A1 by have := HA1.out; omega])
            clear ha
            go_upto_region 45 with fail
            clear b4 bl e3 hb
            as_aux_lemma =>
              refine wp_ret7 (dN := _) (dM := _) (dF := _) HY13.out HK13.out HF13.out HR13.out HQ13.out (by have := HS1.out; have := HLY.out; have := HYK.out; omega) (by have := HS1.out; have := HLY.out; have := HYK.out; omega) (by have := HS1.out; have := HLY.out; have := HYK.out; omega) (by have := HS1.out; have := HLY.out; have := HYK.out; omega) (by have := HS1.out; have := HLY.out; have := HYK.out; omega) (by have := HS1.out; have := HLY.out; have := HYK.out; omega) (by have := HS1.out; have := HLY.out; have := HYK.out; omega) (by kernel_rfl) (by kernel_rfl) rfl ⟨by kernel_rfl, by kernel_rfl, by kernel_rfl⟩ ⟨by kernel_rfl, by kernel_rfl, by kernel_rfl⟩ (by kernel_rfl) (by kernel_rfl) (by kernel_rfl) (by kernel_rfl) (by kernel_rfl) (by kernel_rfl) ⟨⟨rfl, rfl, rfl⟩, rfl, rfl, rfl, rfl⟩ ⟨⟨rfl, rfl, rfl⟩, rfl, rfl, rfl, rfl⟩ (fun _ _ _ _ h => h) (fun _ _ _ _ h => h) (fun _ _ _ _ h => h) (by kernel_rfl) (by kernel_rfl) (by kernel_rfl) (by kernel_rfl) (by kernel_rfl) (by kernel_rfl) (by kernel_rfl) (by kernel_rfl) ⟨⟨rfl, rfl⟩, ⟨by decide, by decide⟩, ⟨by decide, by decide⟩, by decide, by decide⟩ (by kernel_rfl) (by kernel_rfl) (by kernel_rfl) Try.underlying25 rfl Try.sizeNode Try.underlying44 rfl Try.sizeMail Try.underlying30 rfl Try.sizeFaultR Try.underlying32 (n := 9) (z := .agg #[.int .i64 0, .int .i64 0, .int .i64 0, .int .i64 0, .int .i64 0, .int .i64 0, .int .i64 0, .slice none 0 0, .bool false]) (by kernel_rfl) (by decide) (by decide) (by kernel_rfl) rfl rfl rfl rfl ⟨rfl, rfl, rfl⟩ (by kernel_rfl) ?_
              intro k wm w9 a9 hka hkv hgm hg9 hR9 hQ9 hk hK9
              have HR9 := hide hR9
              have HQ9 := hide hQ9
              have HN9 := hide ((HN13.out.offB hgm (by have := HS1.out; have := HLY.out; have := HBS.out; omega)).offB hg9 (by have := HS1.out; have := HLY.out; have := HBS.out; omega)).rd
              have HA9 := hide (below_ret HA13.out hgm hg9 (by omega) (by omega) HA13.out.size)
              have HK9 := hide hK9
              clear hK9
              clear hR9 hQ9 hgm hg9
              unfold Exit.then
              rename_i hk9
              refine hk9 _ _ (wp_ret ?_)
              clear hk9
              refine bodyPost_ret (results3_ctc (v2 := .slice (some ⟨k, 0, none⟩) 1 1) Try.results25 ((hka.tmps _ (by kernel_rfl)).trans (by kernel_rfl)) hkv ((hka.tmps _ (by kernel_rfl)).trans (by kernel_rfl)) (run_loadVar_blk HR9.out Try.underlying25 rfl Try.sizeNode) (run_loadVar_blk HQ9.out Try.underlying30 rfl Try.sizeFaultR)) (hka.defers.trans rfl) ?_
              exact TnTo.fin HN_.out HM_.out HTF.out HN9.out (RdM.oneB (m := ⟨4, id, fr, H.term, A1, 0, 0, [], false⟩) rfl HK9.out) HA9.out
          have e3 : decide (A1 < 0) = true := decide_eq_true hb
          have HM_ := hide (show takM ⟨n, id, te, vo, lo, ro, co, vs, ns, hs⟩ ⟨ki, fr, dt, mt, ma, mb, mc, es, ok⟩ = [⟨4, id, fr, H.term, 0, 0, 0, [], false⟩] by rw [HM0.out, show max 0 (min (ma - 1) (H.log.length : Int)) = 0 by have := HA1.out; omega])
          clear ha
          go_upto_region 45 with (refine wpList_store_int (B := wk.heap.size) (k := 4) (q := .i64) (n := 0) rfl rfl (by kernel_rfl) (by kernel_rfl) HK13.out (by kernel_rfl) Try.sizeIntR ?_; intro w14 hK14 hg14; have HK14 := hide (show Blk w14 wk.heap.size 44 #[.int .i64 4, .int .i64 id, .int .i64 fr, .int .i64 H.term, .int .i64 0, .int .i64 0, .int .i64 0, .slice none 0 0, .bool false] from hK14); have HY14 := hide (HY13.out.grown hg14 (by simp; have := HYK.out; omega)); have HN14 := hide (HN13.out.offB hg14 (by have := HBS2.out; omega)); have HM14 := hide (HM13.out.grown hg14 (by simp; have := HS1.out; have := HLY.out; have := HYK.out; omega)); have HR14 := hide (HR13.out.grown hg14 (by simp; have := HS1.out; have := HLY.out; have := HYK.out; omega)); have HQ14 := hide (HQ13.out.grown hg14 (by simp; have := HS1.out; have := HLY.out; have := HYK.out; omega)); have HF14 := hide (HF13.out.grown hg14 (by simp; have := HS1.out; have := HLY.out; have := HYK.out; omega)); have HA14 := hide (below_grownO HA13.out hg14 (fun k hk => by cases hk; have := HS1.out; have := HLY.out; have := HYK.out; omega) HA13.out.size); clear hK14 hg14)
          clear b4 bl e3 hb
          as_aux_lemma =>
            refine wp_ret7 (dN := _) (dM := _) (dF := _) HY14.out HK14.out HF14.out HR14.out HQ14.out (by have := HS1.out; have := HLY.out; have := HYK.out; omega) (by have := HS1.out; have := HLY.out; have := HYK.out; omega) (by have := HS1.out; have := HLY.out; have := HYK.out; omega) (by have := HS1.out; have := HLY.out; have := HYK.out; omega) (by have := HS1.out; have := HLY.out; have := HYK.out; omega) (by have := HS1.out; have := HLY.out; have := HYK.out; omega) (by have := HS1.out; have := HLY.out; have := HYK.out; omega) (by kernel_rfl) (by kernel_rfl) rfl ⟨by kernel_rfl, by kernel_rfl, by kernel_rfl⟩ ⟨by kernel_rfl, by kernel_rfl, by kernel_rfl⟩ (by kernel_rfl) (by kernel_rfl) (by kernel_rfl) (by kernel_rfl) (by kernel_rfl) (by kernel_rfl) ⟨⟨rfl, rfl, rfl⟩, rfl, rfl, rfl, rfl⟩ ⟨⟨rfl, rfl, rfl⟩, rfl, rfl, rfl, rfl⟩ (fun _ _ _ _ h => h) (fun _ _ _ _ h => h) (fun _ _ _ _ h => h) (by kernel_rfl) (by kernel_rfl) (by kernel_rfl) (by kernel_rfl) (by kernel_rfl) (by kernel_rfl) (by kernel_rfl) (by kernel_rfl) ⟨⟨rfl, rfl⟩, ⟨by decide, by decide⟩, ⟨by decide, by decide⟩, by decide, by decide⟩ (by kernel_rfl) (by kernel_rfl) (by kernel_rfl) Try.underlying25 rfl Try.sizeNode Try.underlying44 rfl Try.sizeMail Try.underlying30 rfl Try.sizeFaultR Try.underlying32 (n := 9) (z := .agg #[.int .i64 0, .int .i64 0, .int .i64 0, .int .i64 0, .int .i64 0, .int .i64 0, .int .i64 0, .slice none 0 0, .bool false]) (by kernel_rfl) (by decide) (by decide) (by kernel_rfl) rfl rfl rfl rfl ⟨rfl, rfl, rfl⟩ (by kernel_rfl) ?_
            intro k wm w9 a9 hka hkv hgm hg9 hR9 hQ9 hk hK9
            have HR9 := hide hR9
            have HQ9 := hide hQ9
            have HN9 := hide ((HN14.out.offB hgm (by have := HS1.out; have := HLY.out; have := HBS.out; omega)).offB hg9 (by have := HS1.out; have := HLY.out; have := HBS.out; omega)).rd
            have HA9 := hide (below_ret HA14.out hgm hg9 (by omega) (by omega) HA14.out.size)
            have HK9 := hide hK9
            clear hK9
            clear hR9 hQ9 hgm hg9
            unfold Exit.then
            rename_i hk9
            refine hk9 _ _ (wp_ret ?_)
            clear hk9
            refine bodyPost_ret (results3_ctc (v2 := .slice (some ⟨k, 0, none⟩) 1 1) Try.results25 ((hka.tmps _ (by kernel_rfl)).trans (by kernel_rfl)) hkv ((hka.tmps _ (by kernel_rfl)).trans (by kernel_rfl)) (run_loadVar_blk HR9.out Try.underlying25 rfl Try.sizeNode) (run_loadVar_blk HQ9.out Try.underlying30 rfl Try.sizeFaultR)) (hka.defers.trans rfl) ?_
            exact TnTo.fin HN_.out HM_.out HTF.out HN9.out (RdM.oneB (m := ⟨4, id, fr, H.term, 0, 0, 0, [], false⟩) rfl HK9.out) HA9.out
        obtain ⟨C0, hC0⟩ : ∃ C0 : Nat, H.com = C0 := ⟨H.com.toNat, by have := HFH.out.c0; omega⟩
        have HC0 := hide hC0
        have HT3 := hide (show t3K H ⟨ki, fr, dt, mt, ma, mb, mc, es, ok⟩ = if begB PL (H.log.take C0) = false then .none else .yes by have h0 := HT3.out; rw [hC0, Int.toNat_natCast] at h0; rw [h0]; rfl)
        have HCL := hide (show C0 ≤ H.log.length ∧ H.log.length ≤ 100 by have := HFH.out.cl; have := HFH.out.loglen; omega)
        clear hC0
        go_upto_region 46 with fail
        go_wp2_with fail
        go_loopw [14] (fun iv wr => ∃ k : Nat, k ≤ C0 ∧ iv = .int .i64 k ∧ (∀ j, j < k → PL[j]? = H.log[j]?) ∧ Below W11.heap.size W11 wr)
          (fun iv _ => C0 - (intOf iv).toNat)
        case atStart => exact ⟨0, by omega, rfl, fun j hj => by omega, Below.refl _ _⟩
        case round =>
          obtain ⟨k, hk, rfl, hsame, hbr⟩ := hrel
          have HSM := hide hsame
          have HBR := hide hbr
          have HY15 := hide (HY11.out.later hbr)
          have HN15 := hide (HN11.out.below hbr)
          have HRL5 := hide (HRL1.out.below hbr)
          have HM15 := hide (HM11.out.later hbr)
          have HR15 := hide (HR11.out.later hbr)
          have HQ15 := hide (HQ11.out.later hbr)
          have HF15 := hide (HF11.out.later hbr)
          have HK15 := hide (HK11.out.later hbr)
          have HA15 := hide (HA11.out.trans (hbr.mono HA11.out.size))
          have y4 := HY15.out.cell 4
          have y6 := HY15.out.cell 6
          have yl := HY15.out.lt
          simp at y4 y6
          rw [HC0.out] at y6
          clear hsame hbr
          by_cases hlt : k < C0
          · have e1 : decide ((k : Int) < (C0 : Int)) = true := decide_eq_true (by omega)
            have hk1 : (0 : Int) ≤ (k : Int) := by omega
            have hkl : k < H.log.length := by have := HCL.out; omega
            obtain ⟨d, hd⟩ : ∃ d, H.log[k]? = some d := ⟨_, List.getElem?_eq_getElem hkl⟩
            have HDd := hide hd
            have m3 := HM15.out.cell 3
            clear m3
            generalize hNE : decide (¬ PL[k]? = H.log[k]?) = NE
            have HNE := hide hNE
            clear hNE
            go_upto_region 49 with fail
            go_cut [244] from 223 to 246 (fun g wx => g = .bool NE ∧ Below wr.heap.size wr wx)
            case first =>
              as_aux_lemma =>
                by_cases hpl : k < PL.length
                case neg =>
                  have e2 : decide ((PL.length : Int) ≤ (k : Int)) = true := decide_eq_true (by omega)
                  have e2n : decide (PL.length ≤ k) = true := decide_eq_true (by omega)
                  obtain rfl : NE = true := by rw [← HNE.out, List.getElem?_eq_none (by omega), hd]; simp
                  clear hd hpl hkl hlt
                  focus
                    go_quiet (fail)
                    go_wp2_with fail
                    go_meet
                    case rel => exact ⟨rfl, below_drewN (Below.refl _ _) _⟩
                have e2 : decide ((PL.length : Int) ≤ (k : Int)) = false := decide_eq_false (by omega)
                have e2n : decide (PL.length ≤ k) = false := decide_eq_false (by omega)
                obtain ⟨c, hc⟩ : ∃ c, PL[k]? = some c := ⟨_, List.getElem?_eq_getElem hpl⟩
                rw [hc, hd] at HNE
                obtain ⟨g1, o1, rfl, hg1, hat1⟩ := HRL5.out.here hc
                obtain ⟨g2, o2, rfl, hg2, hat2⟩ := HN15.out.rd.log.here hd
                obtain ⟨p0, p1⟩ := hat1.ent
                obtain ⟨r0, r1⟩ := hat2.ent
                have hk2 : (k : Int) < (PL.length : Int) := by omega
                have hk3 : (k : Int) < (H.log.length : Int) := by omega
                clear hat1 hat2 hc hd
                obtain ⟨ct, cx⟩ := c
                obtain ⟨dt', dx⟩ := d
                simp only at p0 p1 r0 r1
                by_cases h1 : ct = dt'
                case neg =>
                  have hq1 : (ct == dt') = false := by simp [h1]
                  obtain rfl : NE = true := by rw [← HNE.out]; simp [h1]
                  clear h1 hkl hlt hpl
                  focus
                    go_quiet (fail)
                    go_wp2_with fail
                    go_meet
                    case rel => exact ⟨rfl, below_drewN (Below.refl _ _) _⟩
                have hq1 : (ct == dt') = true := by simp [h1]
                by_cases h2 : cx = dx
                case neg =>
                  have hq2 : (cx.toList == dx.toList) = false := beq_eq_false_iff_ne.2 (fun q => h2 (ba_inj q))
                  obtain rfl : NE = true := by rw [← HNE.out]; simp [h2]
                  clear h1 h2 hkl hlt hpl
                  focus
                    go_quiet (fail)
                    go_wp2_with fail
                    go_meet
                    case rel => exact ⟨rfl, below_drewN (Below.refl _ _) _⟩
                have hq2 : (cx.toList == dx.toList) = true := by simp [h2]
                obtain rfl : NE = false := by rw [← HNE.out]; simp [h1, h2]
                clear h1 h2 hkl hlt hpl
                focus
                  go_quiet (fail)
                  go_wp2_with fail
                  go_meet
                  case rel => exact ⟨rfl, below_drewN (Below.refl _ _) _⟩
            case rest =>
              as_aux_lemma =>
                obtain ⟨rfl, hbx⟩ := hcut
                have HBX := hide (HBR.out.trans (hbx.mono HBR.out.size))
                have HY16 := hide (HY15.out.later hbx)
                have HN16 := hide (HN15.out.below hbx)
                have HM16 := hide (HM15.out.later hbx)
                have HR16 := hide (HR15.out.later hbx)
                have HQ16 := hide (HQ15.out.later hbx)
                have HF16 := hide (HF15.out.later hbx)
                have HK16 := hide (HK15.out.later hbx)
                have HA16 := hide (HA15.out.trans (hbx.mono HA15.out.size))
                clear y4 y6 yl hbx HY15 HN15 HRL5 HM15 HR15 HQ15 HF15 HK15 HA15 HBR
                cases NE
                case true =>
                  have hne : PL[k]? ≠ H.log[k]? := of_decide_eq_true HNE.out
                  have hk3 : t3K H ⟨ki, fr, dt, mt, ma, mb, mc, es, ok⟩ = .none := HT3.out.trans (if_pos (beg_not hlt HCL.out.1 hne))
                  have HN_ := hide (HTN1.out.trans (t3_none hk3).1)
                  have HM_ := hide (HTM1.out.trans (t3_none hk3).2)
                  clear hk3 hne hd hkl hlt
                  go_upto_region 50 with fail
                  as_aux_lemma =>
                    refine wp_ret5 (dN := _) (dF := _) (v3 := .slice none 0 0) HY16.out HF16.out HR16.out HQ16.out (by have := HS1.out; have := HLY.out; have := HYK.out; omega) (by have := HS1.out; have := HLY.out; have := HYK.out; omega) (by have := HS1.out; have := HLY.out; have := HYK.out; omega) (by have := HS1.out; have := HLY.out; have := HYK.out; omega) (by have := HS1.out; have := HLY.out; have := HYK.out; omega) (by kernel_rfl) (by kernel_rfl) rfl (by kernel_rfl) (by kernel_rfl) (by kernel_rfl) (by kernel_rfl) (by kernel_rfl) (by kernel_rfl) (by kernel_rfl) (by kernel_rfl) ⟨⟨rfl, rfl⟩, rfl, rfl, rfl⟩ ⟨⟨rfl, rfl⟩, rfl, rfl, rfl⟩ (fun _ _ _ _ h => h) (fun _ _ _ _ h => h) (by kernel_rfl) (by kernel_rfl) (by kernel_rfl) (by kernel_rfl) (by kernel_rfl) (by kernel_rfl) (by kernel_rfl) (by kernel_rfl) (by kernel_rfl) Try.underlying25 rfl Try.sizeNode Try.underlying30 rfl Try.sizeFaultR rfl rfl rfl rfl ?_
                    intro wm w9 hgm hg9 hR9 hQ9
                    have HR9 := hide hR9
                    have HQ9 := hide hQ9
                    have HN9 := hide ((HN16.out.offB hgm (by have := HS1.out; have := HLY.out; have := HBS.out; omega)).offB hg9 (by have := HS1.out; have := HLY.out; have := HBS.out; omega)).rd
                    have HA9 := hide (below_ret HA16.out hgm hg9 (by omega) (by omega) HA16.out.size)
                    clear hR9 hQ9 hgm hg9
                    unfold Exit.then
                    rename_i hk9
                    refine hk9 _ _ (wp_ret ?_)
                    clear hk9
                    refine bodyPost_ret (results3_ctc (v2 := .slice none 0 0) Try.results25 (by kernel_rfl) (by kernel_rfl) (by kernel_rfl) (run_loadVar_blk HR9.out Try.underlying25 rfl Try.sizeNode) (run_loadVar_blk HQ9.out Try.underlying30 rfl Try.sizeFaultR)) rfl ?_
                    exact TnTo.fin HN_.out HM_.out HTF.out HN9.out (RdM.nilW w9) HA9.out
                case false =>
                  have heq : PL[k]? = H.log[k]? := by have := of_decide_eq_false HNE.out; exact Decidable.not_not.1 this
                  have HS2 := hide (show ∀ j, j < k + 1 → PL[j]? = H.log[j]? from fun j hj => by
                    by_cases q : j = k
                    · rw [q]; exact heq
                    · exact HSM.out j (by omega))
                  have HLT := hide hlt
                  have hw9 : IntKind.i64.wrap ((k : Int) + 1) = (k : Int) + 1 := by rw [IntKind.wrap_i64]; have := HCL.out; omega
                  clear hd heq
                  go_wp2_with fail
                  go_roundw
                  case rel => exact ⟨k + 1, by have := HLT.out; omega, by go_num, HS2.out, HBX.out⟩
                  case measure => have := HLT.out; simp [intOf]; omega
          · have e1 : decide ((k : Int) < (C0 : Int)) = false := decide_eq_false (by omega)
            obtain rfl : k = C0 := by omega
            have hk3 : t3K H ⟨ki, fr, dt, mt, ma, mb, mc, es, ok⟩ = .yes := HT3.out.trans (if_neg (by rw [beg_all HCL.out.1 HSM.out]; simp))
            have HNN := hide (HTN1.out.trans (t3_yes hk3).1)
            have HM_ := hide ((HTM1.out.trans (t3_yes hk3).2).trans (HAN.out _ _ _))
            dsimp only at HNN HM_
            rw [HPLE.out] at HNN
            clear hk3 y4
            have hma0 := HFM.out.a0
            have hma1 := HFM.out.a1
            have hel := HFM.out.len
            simp only at hma0 hma1 hel
            have hw1 : IntKind.i64.wrap (ma + (es.length : Int)) = ma + es.length := by rw [IntKind.wrap_i64]; omega
            have hes := HEV.out.shape
            clear hma0 hma1 hel hes
            have m4 := HM15.out.cell 4
            have m6 := HM15.out.cell 6
            have m7 := HM15.out.cell 7
            have ml := HM15.out.lt
            simp at m4 m6 m7
            go_upto_region 51 with fail
            clear y6 yl hlt
            go_upto_region 54 with (first
              | (refine wpList_store_slice (B := w3.heap.size) (k := 4) (ao := ao10) (n := PL.length) (c := cap10) rfl rfl (by kernel_rfl) (by kernel_rfl) HY15.out (by kernel_rfl) Try.sizeEntsR ?_; intro w17 hY17 hg17; have HY17 := hide hY17; have HR17_ := hide (HRL5.out.noS hg17 HY15.out rfl); have HK17 := hide (HK15.out.grown hg17 (by simp; have := HYK.out; omega)); have HM17 := hide (HM15.out.grown hg17 (by simp; have := HS1.out; have := HLY.out; have := HYK.out; omega)); have HR17 := hide (HR15.out.grown hg17 (by simp; have := HS1.out; have := HLY.out; have := HYK.out; omega)); have HQ17 := hide (HQ15.out.grown hg17 (by simp; have := HS1.out; have := HLY.out; have := HYK.out; omega)); have HF17 := hide (HF15.out.grown hg17 (by simp; have := HS1.out; have := HLY.out; have := HYK.out; omega)); have HA17 := hide (below_grownO HA15.out hg17 (fun k hk => by cases hk; have := HS1.out; have := HLY.out; have := HYK.out; omega) HA15.out.size); have m4 := HM17.out.cell 4; have m6 := HM17.out.cell 6; have m7 := HM17.out.cell 7; have ml := HM17.out.lt; simp at m4 m6 m7; clear hY17 hg17)
              | (refine wpList_store_bool (B := wk.heap.size) (k := 8) (b := true) rfl rfl (by kernel_rfl) (by kernel_rfl) HK17.out (by kernel_rfl) Try.sizeBoolR ?_; intro w18 hK18 hg18; have HK18 := hide (show Blk w18 wk.heap.size 44 #[.int .i64 4, .int .i64 id, .int .i64 fr, .int .i64 H.term, .int .i64 0, .int .i64 0, .int .i64 0, .slice none 0 0, .bool true] from hK18); have HY18 := hide (HY17.out.grown hg18 (by simp; have := HYK.out; omega)); have HR18_ := hide (HR17_.out.noS hg18 HK17.out rfl); have HM18 := hide (HM17.out.grown hg18 (by simp; have := HS1.out; have := HLY.out; have := HYK.out; omega)); have HR18 := hide (HR17.out.grown hg18 (by simp; have := HS1.out; have := HLY.out; have := HYK.out; omega)); have HQ18 := hide (HQ17.out.grown hg18 (by simp; have := HS1.out; have := HLY.out; have := HYK.out; omega)); have HF18 := hide (HF17.out.grown hg18 (by simp; have := HS1.out; have := HLY.out; have := HYK.out; omega)); have HA18 := hide (below_grownO HA17.out hg18 (fun k hk => by cases hk; have := HS1.out; have := HLY.out; have := HYK.out; omega) HA17.out.size); have m4 := HM18.out.cell 4; have m6 := HM18.out.cell 6; have m7 := HM18.out.cell 7; have ml := HM18.out.lt; simp at m4 m6 m7; clear hK18 hg18)
              | (refine wpList_store_int (B := wk.heap.size) (k := 4) (q := .i64) (n := ma + (es.length : Int)) rfl rfl (by kernel_rfl) (by kernel_rfl) HK18.out (by kernel_rfl) Try.sizeIntR ?_; intro w19 hK19 hg19; have HK19 := hide (show Blk w19 wk.heap.size 44 #[.int .i64 4, .int .i64 id, .int .i64 fr, .int .i64 H.term, .int .i64 ((ma + (es.length : Int)) : Int), .int .i64 0, .int .i64 0, .slice none 0 0, .bool true] from hK19); have HY19 := hide (HY18.out.grown hg19 (by simp; have := HYK.out; omega)); have HR19_ := hide (HR18_.out.noS hg19 HK18.out rfl); have HM19 := hide (HM18.out.grown hg19 (by simp; have := HS1.out; have := HLY.out; have := HYK.out; omega)); have HR19 := hide (HR18.out.grown hg19 (by simp; have := HS1.out; have := HLY.out; have := HYK.out; omega)); have HQ19 := hide (HQ18.out.grown hg19 (by simp; have := HS1.out; have := HLY.out; have := HYK.out; omega)); have HF19 := hide (HF18.out.grown hg19 (by simp; have := HS1.out; have := HLY.out; have := HYK.out; omega)); have HA19 := hide (below_grownO HA18.out hg19 (fun k hk => by cases hk; have := HS1.out; have := HLY.out; have := HYK.out; omega) HA18.out.size); have m6 := HM19.out.cell 6; have ml := HM19.out.lt; simp at m6; clear hK19 hg19))
            have b4 := HK19.out.cell 4
            have bl := HK19.out.lt
            simp at b4
            go_upto_if 262 with fail
            generalize hP : decide (ma + (es.length : Int) < mc) = PB
            have HP_ := hide hP
            clear hP
            go_cut [15] (fun v wx => v = .int .i64 (min mc (ma + (es.length : Int))) ∧ w19 = wx)
            case first =>
              as_aux_lemma =>
                cases PB
                case true =>
                  have hq := of_decide_eq_true HP_.out
                  have HMN := hide (show min mc (ma + (es.length : Int)) = ma + es.length by omega)
                  clear hq
                  focus
                    go_wp2_with fail
                    go_meet
                    case rel => exact ⟨by rw [HMN.out], rfl⟩
                have hq := of_decide_eq_false HP_.out
                have HMN := hide (show min mc (ma + (es.length : Int)) = mc by omega)
                clear hq
                focus
                  go_wp2_with fail
                  go_meet
                  case rel => exact ⟨by rw [HMN.out], rfl⟩
            case rest =>
              as_aux_lemma =>
                obtain ⟨rfl, rfl⟩ := hcut
                clear HP_ b4 bl m4 m6 m7 ml
                generalize hAe : min mc (ma + (es.length : Int)) = A at HNN ⊢
                clear hAe
                have y6 := HY19.out.cell 6
                have yl := HY19.out.lt
                simp at y6
                have HN0 : Hid (takN ⟨n, id, te, vo, lo, ro, co, vs, ns, hs⟩ ⟨ki, fr, dt, mt, ma, mb, mc, es, ok⟩ = ⟨H.n, H.id, H.term, H.vote, PL, 0, max H.com A, [], [], []⟩) := HNN
                go_upto_if 268 with fail
                generalize hP : decide (H.com < A) = PB
                have HP_ := hide hP
                clear hP HNN
                cases PB
                case false =>
                  have hq := of_decide_eq_false HP_.out
                  have HN_ : Hid (takN ⟨n, id, te, vo, lo, ro, co, vs, ns, hs⟩ ⟨ki, fr, dt, mt, ma, mb, mc, es, ok⟩ = ⟨H.n, H.id, H.term, H.vote, PL, 0, H.com, [], [], []⟩) := hide (by rw [HN0.out, show max H.com A = H.com by omega])
                  clear hq y6 yl
                  go_upto_region 59 with fail
                  as_aux_lemma =>
                    refine wp_ret7 (dN := _) (dM := _) (dF := _) HY19.out HK19.out HF19.out HR19.out HQ19.out (by have := HS1.out; have := HLY.out; have := HYK.out; omega) (by have := HS1.out; have := HLY.out; have := HYK.out; omega) (by have := HS1.out; have := HLY.out; have := HYK.out; omega) (by have := HS1.out; have := HLY.out; have := HYK.out; omega) (by have := HS1.out; have := HLY.out; have := HYK.out; omega) (by have := HS1.out; have := HLY.out; have := HYK.out; omega) (by have := HS1.out; have := HLY.out; have := HYK.out; omega) (by kernel_rfl) (by kernel_rfl) rfl ⟨by kernel_rfl, by kernel_rfl, by kernel_rfl⟩ ⟨by kernel_rfl, by kernel_rfl, by kernel_rfl⟩ (by kernel_rfl) (by kernel_rfl) (by kernel_rfl) (by kernel_rfl) (by kernel_rfl) (by kernel_rfl) ⟨⟨rfl, rfl, rfl⟩, rfl, rfl, rfl, rfl⟩ ⟨⟨rfl, rfl, rfl⟩, rfl, rfl, rfl, rfl⟩ (fun _ _ _ _ h => h) (fun _ _ _ _ h => h) (fun _ _ _ _ h => h) (by kernel_rfl) (by kernel_rfl) (by kernel_rfl) (by kernel_rfl) (by kernel_rfl) (by kernel_rfl) (by kernel_rfl) (by kernel_rfl) ⟨⟨rfl, rfl⟩, ⟨by decide, by decide⟩, ⟨by decide, by decide⟩, by decide, by decide⟩ (by kernel_rfl) (by kernel_rfl) (by kernel_rfl) Try.underlying25 rfl Try.sizeNode Try.underlying44 rfl Try.sizeMail Try.underlying30 rfl Try.sizeFaultR Try.underlying32 (n := 9) (z := .agg #[.int .i64 0, .int .i64 0, .int .i64 0, .int .i64 0, .int .i64 0, .int .i64 0, .int .i64 0, .slice none 0 0, .bool false]) (by kernel_rfl) (by decide) (by decide) (by kernel_rfl) rfl rfl rfl rfl ⟨rfl, rfl, rfl⟩ (by kernel_rfl) ?_
                    intro k wm w9 a9 hka hkv hgm hg9 hR9 hQ9 hk hK9
                    have HR9 := hide hR9
                    have HQ9 := hide hQ9
                    have HN9 := hide (show RdNd w9 ⟨H.n, H.id, H.term, H.vote, PL, 0, H.com, [], [], []⟩ (.slice ao10 PL.length cap10) (.slice none 0 0) (.slice none 0 0) (.slice none 0 0) from ⟨(HR19_.out.noS hgm HR19.out rfl).noS hg9 (HQ19.out.grown hgm (fun q => by injection q with q; omega)) rfl, RdG.nil _, RdG.nil _, RdG.nil _⟩)
                    have HA9 := hide (below_ret HA19.out hgm hg9 (by omega) (by omega) HA19.out.size)
                    have HK9 := hide hK9
                    clear hK9
                    clear hR9 hQ9 hgm hg9
                    unfold Exit.then
                    rename_i hk9
                    refine hk9 _ _ (wp_ret ?_)
                    clear hk9
                    refine bodyPost_ret (results3_ctc (v2 := .slice (some ⟨k, 0, none⟩) 1 1) Try.results25 ((hka.tmps _ (by kernel_rfl)).trans (by kernel_rfl)) hkv ((hka.tmps _ (by kernel_rfl)).trans (by kernel_rfl)) (run_loadVar_blk HR9.out Try.underlying25 rfl Try.sizeNode) (run_loadVar_blk HQ9.out Try.underlying30 rfl Try.sizeFaultR)) (hka.defers.trans rfl) ?_
                    exact TnTo.fin HN_.out HM_.out HTF.out HN9.out (RdM.oneB (m := ⟨4, id, fr, H.term, (ma + (es.length : Int)), 0, 0, [], true⟩) rfl HK9.out) HA9.out
                have hq := of_decide_eq_true HP_.out
                have HN_ : Hid (takN ⟨n, id, te, vo, lo, ro, co, vs, ns, hs⟩ ⟨ki, fr, dt, mt, ma, mb, mc, es, ok⟩ = ⟨H.n, H.id, H.term, H.vote, PL, 0, A, [], [], []⟩) := hide (by rw [HN0.out, show max H.com A = A by omega])
                clear hq y6 yl
                go_upto_region 59 with (refine wpList_store_int (B := w3.heap.size) (k := 6) (q := .i64) (n := A) rfl rfl (by kernel_rfl) (by kernel_rfl) HY19.out (by kernel_rfl) Try.sizeIntR ?_; intro w20 hY20 hg20; have HY20 := hide hY20; have HR20_ := hide (HR19_.out.noS hg20 HY19.out rfl); have HK20 := hide (HK19.out.grown hg20 (by simp; have := HYK.out; omega)); have HM20 := hide (HM19.out.grown hg20 (by simp; have := HS1.out; have := HLY.out; have := HYK.out; omega)); have HR20 := hide (HR19.out.grown hg20 (by simp; have := HS1.out; have := HLY.out; have := HYK.out; omega)); have HQ20 := hide (HQ19.out.grown hg20 (by simp; have := HS1.out; have := HLY.out; have := HYK.out; omega)); have HF20 := hide (HF19.out.grown hg20 (by simp; have := HS1.out; have := HLY.out; have := HYK.out; omega)); have HA20 := hide (below_grownO HA19.out hg20 (fun k hk => by cases hk; have := HS1.out; have := HLY.out; have := HYK.out; omega) HA19.out.size); clear hY20 hg20)
                as_aux_lemma =>
                  refine wp_ret7 (dN := _) (dM := _) (dF := _) HY20.out HK20.out HF20.out HR20.out HQ20.out (by have := HS1.out; have := HLY.out; have := HYK.out; omega) (by have := HS1.out; have := HLY.out; have := HYK.out; omega) (by have := HS1.out; have := HLY.out; have := HYK.out; omega) (by have := HS1.out; have := HLY.out; have := HYK.out; omega) (by have := HS1.out; have := HLY.out; have := HYK.out; omega) (by have := HS1.out; have := HLY.out; have := HYK.out; omega) (by have := HS1.out; have := HLY.out; have := HYK.out; omega) (by kernel_rfl) (by kernel_rfl) rfl ⟨by kernel_rfl, by kernel_rfl, by kernel_rfl⟩ ⟨by kernel_rfl, by kernel_rfl, by kernel_rfl⟩ (by kernel_rfl) (by kernel_rfl) (by kernel_rfl) (by kernel_rfl) (by kernel_rfl) (by kernel_rfl) ⟨⟨rfl, rfl, rfl⟩, rfl, rfl, rfl, rfl⟩ ⟨⟨rfl, rfl, rfl⟩, rfl, rfl, rfl, rfl⟩ (fun _ _ _ _ h => h) (fun _ _ _ _ h => h) (fun _ _ _ _ h => h) (by kernel_rfl) (by kernel_rfl) (by kernel_rfl) (by kernel_rfl) (by kernel_rfl) (by kernel_rfl) (by kernel_rfl) (by kernel_rfl) ⟨⟨rfl, rfl⟩, ⟨by decide, by decide⟩, ⟨by decide, by decide⟩, by decide, by decide⟩ (by kernel_rfl) (by kernel_rfl) (by kernel_rfl) Try.underlying25 rfl Try.sizeNode Try.underlying44 rfl Try.sizeMail Try.underlying30 rfl Try.sizeFaultR Try.underlying32 (n := 9) (z := .agg #[.int .i64 0, .int .i64 0, .int .i64 0, .int .i64 0, .int .i64 0, .int .i64 0, .int .i64 0, .slice none 0 0, .bool false]) (by kernel_rfl) (by decide) (by decide) (by kernel_rfl) rfl rfl rfl rfl ⟨rfl, rfl, rfl⟩ (by kernel_rfl) ?_
                  intro k wm w9 a9 hka hkv hgm hg9 hR9 hQ9 hk hK9
                  have HR9 := hide hR9
                  have HQ9 := hide hQ9
                  have HN9 := hide (show RdNd w9 ⟨H.n, H.id, H.term, H.vote, PL, 0, A, [], [], []⟩ (.slice ao10 PL.length cap10) (.slice none 0 0) (.slice none 0 0) (.slice none 0 0) from ⟨(HR20_.out.noS hgm HR20.out rfl).noS hg9 (HQ20.out.grown hgm (fun q => by injection q with q; omega)) rfl, RdG.nil _, RdG.nil _, RdG.nil _⟩)
                  have HA9 := hide (below_ret HA20.out hgm hg9 (by omega) (by omega) HA20.out.size)
                  have HK9 := hide hK9
                  clear hK9
                  clear hR9 hQ9 hgm hg9
                  unfold Exit.then
                  rename_i hk9
                  refine hk9 _ _ (wp_ret ?_)
                  clear hk9
                  refine bodyPost_ret (results3_ctc (v2 := .slice (some ⟨k, 0, none⟩) 1 1) Try.results25 ((hka.tmps _ (by kernel_rfl)).trans (by kernel_rfl)) hkv ((hka.tmps _ (by kernel_rfl)).trans (by kernel_rfl)) (run_loadVar_blk HR9.out Try.underlying25 rfl Try.sizeNode) (run_loadVar_blk HQ9.out Try.underlying30 rfl Try.sizeFaultR)) (hka.defers.trans rfl) ?_
                  exact TnTo.fin HN_.out HM_.out HTF.out HN9.out (RdM.oneB (m := ⟨4, id, fr, H.term, (ma + (es.length : Int)), 0, 0, [], true⟩) rfl HK9.out) HA9.out

end Go.Proofs.Ytbffmdhogehfnaa
