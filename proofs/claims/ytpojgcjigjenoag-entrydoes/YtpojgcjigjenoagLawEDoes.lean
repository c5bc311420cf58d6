/-
  The walk over the law EntryDoes. (Written by led.py.)
-/
import Derived.Test.YtpojgcjigjenoagEntR2
import Derived.Test.YtpojgcjigjenoagEntB
namespace Go.Proofs.Ytpojgcjigjenoag
open Go.RowKit
set_option linter.unusedVariables false

set_option maxRecDepth 100000 in
set_option maxHeartbeats 16000000 in
theorem entryDoes_any (va vb : Value) (n t : Int) (a b : List Et) (w : World) (ha : RdG eE w va a) (hb : RdG eE w vb b) (hn : -9223372036854775808 ≤ n ∧ n ≤ 9223372036854775807) (ht : -9223372036854775808 ≤ t ∧ t ≤ 9223372036854775807) :
    Calls Try.prog 7 #[va, vb, .int .i64 n, .int .i64 t] w fun e w' => e = .returned (.bool true) ∧ Below w.heap.size w w' := by
  have HA := hide ha
  have HB := hide hb
  obtain ⟨ao, acap, rfl, hac, hc2⟩ := ha.shape
  obtain ⟨bo, bcap, rfl, hbc, hd2⟩ := hb.shape
  unfold maxLen at hc2 hd2
  clear ha hb hn ht
  go_enter Try.func7, Try.ntmps7
  go_wp2_with fail
  refine (entryBegun_any _).mono ?_
  rintro e w1 ⟨rfl, hb1⟩
  have HB1 := hide hb1
  clear hb1
  go_wp2_with fail
  refine (vastLog_any ao a.length acap _).mono ?_
  cases hva : vastE a.length
  case true =>
    rintro e w2 ⟨rfl, rfl⟩
    go_wp2_with fail
    go_ret
    exact ⟨rfl, HB1.out⟩
  rintro e w2 ⟨rfl, rfl⟩
  go_wp2_with fail
  refine (vastLog_any bo b.length bcap _).mono ?_
  cases hvb : vastE b.length
  case true =>
    rintro e w2 ⟨rfl, rfl⟩
    go_wp2_with fail
    go_ret
    exact ⟨rfl, HB1.out⟩
  rintro e w2 ⟨rfl, rfl⟩
  have hla : a.length ≤ 300 := by unfold vastE at hva; simpa using hva
  have hlb : b.length ≤ 300 := by unfold vastE at hvb; simpa using hvb
  clear hva hvb
  go_wp2_with fail
  refine (CopyLog_any _ a _ (HA.out.below HB1.out) (by omega)).mono ?_
  rintro e w2 ⟨v2, rfl, ho2, hb2⟩
  have HX2 := hide (RdG.ofOwns ho2)
  obtain ⟨xo, xc, rfl⟩ := owns_shapeE ho2
  have HB2 := hide (HB1.out.trans (hb2.mono HB1.out.size))
  clear ho2 hb2
  go_wp2_with fail
  refine (CopyLog_any _ b _ (HB.out.below HB2.out) (by omega)).mono ?_
  rintro e w3 ⟨v3, rfl, ho3, hb3⟩
  have HY3 := hide (RdG.ofOwns ho3)
  obtain ⟨yo, yc, rfl⟩ := owns_shapeE ho3
  have HX3 := hide (HX2.out.below hb3)
  have HB3 := hide (HB2.out.trans (hb3.mono HB2.out.size))
  clear ho3 hb3
  have HOR : Hid (oldR a n t = if (oldF a n t).1 ≠ 0 then false else oldB a n t) := hide rfl
  have HOF : Hid (oldF a n t = if (chkE a).1 ≠ 0 then chkE a else plF n t) := hide rfl
  have HAN : Hid (agN a b = if (bothF a b).1 = 0 then agGo a b (min a.length b.length) else 0) := hide rfl
  have HZ1 := hide (chkE_z a)
  have HT1 := hide (fun v W h => ECheck_any v a W h)
  have HT2 := hide (fun v W h => Older_any v a n t W h)
  have HT3 := hide (fun v u W h1 h2 => Put_any v u a b n t W h1 h2)
  have HT4 := hide (fun v u W h1 h2 => Agree_any v u a b W h1 h2)
  have HT5 := hide (fun v W h => LogFault_any v a W h)
  have HT6 := hide (fun W => PlaceFault_any n t W)
  have HT7 := hide (fun v u W h1 h2 => PutLog_any v u a b n t W h1 h2)
  have HT8 := hide (fun v u W h1 h2 => LogsFault_any v u a b W h1 h2)
  have HT9 := hide (fun v W h => OlderLog_any v a n t W h)
  generalize chkE a = CK at *
  obtain ⟨p, q⟩ := CK
  generalize plF n t = PL at *
  obtain ⟨r, s⟩ := PL
  generalize oldF a n t = OF at *
  obtain ⟨f, g⟩ := OF
  generalize oldR a n t = OR at *
  generalize oldB a n t = OB at *
  generalize putI a n t b = PI at *
  generalize putX a n t b = PX at *
  obtain ⟨x, y⟩ := PX
  generalize putL a n t b = PL2 at *
  generalize hBF : bothF a b = BF at *
  obtain ⟨c, d⟩ := BF
  have HBF := hide hBF
  generalize agN a b = AN at *
  clear hBF
  unfold flt at HT1 HT2 HT3 HT4 HT5 HT6 HT7 HT8
  go_wp2_with fail
  refine (HT1.out _ _ HX3.out).mono ?_
  rintro e w4 ⟨rfl, hb4⟩
  have hbx4 := hb4.trans ((below_allocG w4 (.cells #[.int .i64 p, .int .i64 q] 29)).mono hb4.size)
  have HX4 := hide (HX3.out.below hbx4)
  have HY4 := hide (HY3.out.below hbx4)
  have HC4 := hide (Blk.new w4 29 #[.int .i64 p, .int .i64 q])
  have HB4 := hide (HB3.out.trans (hbx4.mono HB3.out.size))
  clear hb4 hbx4 HX3 HY3
  go_wp2_with fail
  refine (HT2.out _ _ HX4.out).mono ?_
  rintro e w5 ⟨rfl, hb5⟩
  have hbx5 := hb5.trans ((below_allocG w5 (.cells #[.int .i64 f, .int .i64 g] 29)).mono hb5.size)
  have HX5 := hide (HX4.out.below hbx5)
  have HY5 := hide (HY4.out.below hbx5)
  have HC5 := hide (HC4.out.later hbx5)
  have HF5 := hide (Blk.new w5 29 #[.int .i64 f, .int .i64 g])
  have HB5 := hide (HB4.out.trans (hbx5.mono HB4.out.size))
  clear hb5 hbx5 HX4 HY4 HC4
  go_wp2_with fail
  refine (HT3.out _ _ _ HX5.out HY5.out).mono ?_
  rintro e w6 ⟨v6, rfl, hl6, hb6⟩
  obtain ⟨lo, lc, rfl, _, _⟩ := hl6.shape
  have hbx6 := hb6.trans ((below_allocG w6 (.cells #[.int .i64 x, .int .i64 y] 29)).mono hb6.size)
  have HX6 := hide (HX5.out.below hbx6)
  have HY6 := hide (HY5.out.below hbx6)
  have HC6 := hide (HC5.out.later hbx6)
  have HF6 := hide (HF5.out.later hbx6)
  have HG6 := hide (Blk.new w6 29 #[.int .i64 x, .int .i64 y])
  have HB6 := hide (HB5.out.trans (hbx6.mono HB5.out.size))
  have HL6 := hide (hl6.below (below_allocG w6 (.cells #[.int .i64 x, .int .i64 y] 29)))
  clear hl6
  clear hb6 hbx6 HX5 HY5 HC5 HF5
  go_wp2_with fail
  refine (HT4.out _ _ _ HX6.out HY6.out).mono ?_
  rintro e w7 ⟨rfl, hb7⟩
  have hbx7 := hb7.trans ((below_allocG w7 (.cells #[.int .i64 c, .int .i64 d] 29)).mono hb7.size)
  have HX7 := hide (HX6.out.below hbx7)
  have HY7 := hide (HY6.out.below hbx7)
  have HL7 := hide (HL6.out.below hbx7)
  have HC7 := hide (HC6.out.later hbx7)
  have HF7 := hide (HF6.out.later hbx7)
  have HG7 := hide (HG6.out.later hbx7)
  have HD7 := hide (Blk.new w7 29 #[.int .i64 c, .int .i64 d])
  have HB7 := hide (HB6.out.trans (hbx7.mono HB6.out.size))
  clear hb7 hbx7 HX6 HY6 HL6 HC6 HF6 HG6
  go_upto_region 11 with fail
  generalize hA7 : w7.alloc (.cells #[.int .i64 c, .int .i64 d] 29) = A at *
  have HAA := hide (HA.out.below HB7.out)
  have HBA := hide (HB.out.below HB7.out)
  have c0 := HC7.out.cell 0
  have c1 := HC7.out.cell 1
  have cl := HC7.out.lt
  simp at c0 c1
  have HTA : Hid (∀ W, Below A.drew.heap.size A.drew W → Below A.heap.size A W) := hide fun W h => ⟨h.os, h.tape, h.output, h.size, h.block⟩
  have HS1 : Hid (Calls Try.prog 37 #[.slice xo a.length xc, .slice ao a.length acap] A.drew fun e W => e = .returned (.bool true) ∧ Below A.heap.size A W) := hide ((SameLog_any _ _ a A.drew HX7.out.drew HAA.out.drew).mono fun e W ⟨h1, h2⟩ => ⟨h1, HTA.out W h2⟩)
  have HS2 : Hid (∀ W, Below A.heap.size A W → Calls Try.prog 37 #[.slice yo b.length yc, .slice bo b.length bcap] W fun e W' => e = .returned (.bool true) ∧ Below A.heap.size A W') := hide (fun W (h : Below A.heap.size A W) => (SameLog_any _ _ b W (HY7.out.below h) (HBA.out.below h)).mono fun e W' ⟨h1, h2⟩ => ⟨h1, h.trans (h2.mono h.size)⟩)
  have HLF : Hid (∀ W, Below A.heap.size A W → Calls Try.prog 38 #[.slice ao a.length acap] W fun e W' => e = .returned (.agg #[.int .i64 p, .int .i64 q]) ∧ Below A.heap.size A W') := hide (fun W (h : Below A.heap.size A W) => (HT5.out _ W (HAA.out.below h)).mono fun e W' ⟨h1, h2⟩ => ⟨h1, h.trans (h2.mono h.size)⟩)
  have HKEEP : Hid (∀ W, Below A.heap.size A W → W.cell? ⟨w4.heap.size, 0, none⟩ = some (.int .i64 p) ∧ W.cell? ⟨w4.heap.size, 1, none⟩ = some (.int .i64 q)) := hide fun W hW => ⟨(hW.cell cl).trans c0, (hW.cell cl).trans c1⟩
  clear hA7
  go_cut [75] (fun x wc => x = .bool false ∧ Below A.heap.size A wc)
  case first =>
    go_region_held3 (fun W => W.cell? ⟨w4.heap.size, 0, none⟩ = some (.int .i64 p) ∧ W.cell? ⟨w4.heap.size, 1, none⟩ = some (.int .i64 q)) (exact HKEEP.out _ (by go_grown)) (first
      | (have k9 := hbL2; go_at_call 38; refine (HLF.out _ k9).mono ?_; rintro e w10 ⟨rfl, hbL3⟩)
      | (have k9 := hbL1; go_at_call 37; refine (HS2.out _ k9).mono ?_; rintro e w9 ⟨rfl, hbL2⟩)
      | (go_at_call 37; refine HS1.out.mono ?_; rintro e w8 ⟨rfl, hbL1⟩))
    all_goals
      go_wp2_with fail
      go_meet
      case rel => exact ⟨by simp, hbL3⟩
  case rest =>
  obtain ⟨rfl, hbc⟩ := hcut
  have HB8 := hide (HB7.out.trans (hbc.mono HB7.out.size))
  have HF8 := hide (HF7.out.later hbc)
  have HG8 := hide (HG7.out.later hbc)
  have HD8 := hide (HD7.out.later hbc)
  have HL8 := hide (HL7.out.below hbc)
  clear hbc c0 c1 cl HKEEP HLF HS1 HS2 HTA HX7 HY7 HC7 HF7 HG7 HD7 HL7 HAA HBA
  go_wp2_with fail
  refine (HT5.out _ _ (HA.out.below HB8.out)).mono ?_
  rintro e w9 ⟨rfl, hb9⟩
  have hbx9 := hb9.trans ((below_allocG w9 (.cells #[.int .i64 p, .int .i64 q] 29)).mono hb9.size)
  have HB9 := hide (HB8.out.trans (hbx9.mono HB8.out.size))
  have hFl := (HF8.out.later hb9).lt
  have hGl := (HG8.out.later hb9).lt
  have hDl := (HD8.out.later hb9).lt
  have hwl := (HB8.out.trans (hb9.mono HB8.out.size)).size
  have HF9 := hide (HF8.out.later hbx9)
  have HG9 := hide (HG8.out.later hbx9)
  have HD9 := hide (HD8.out.later hbx9)
  have HL9 := hide (HL8.out.below hbx9)
  have HK9 := hide (Blk.new w9 29 #[.int .i64 p, .int .i64 q])
  clear hb9 hbx9 HB8 HF8 HG8 HD8 HL8
  go_upto_if 80 with fail
  generalize hA9 : w9.alloc (.cells #[.int .i64 p, .int .i64 q] 29) = B at HB9 HF9 HG9 HD9 HL9 HK9 ⊢
  clear hA9
  go_cut [83] (fun _ wc => Blk wc w9.heap.size 29 #[.int .i64 f, .int .i64 g] ∧ Blk wc w5.heap.size 29 #[.int .i64 f, .int .i64 g] ∧ Blk wc w6.heap.size 29 #[.int .i64 x, .int .i64 y] ∧ Blk wc w7.heap.size 29 #[.int .i64 c, .int .i64 d] ∧ RdG eE wc (.slice lo PL2.length lc) PL2 ∧ Below w.heap.size w wc)
  case first =>
    by_cases hp : p ≠ 0
    · have he := HOF.out.trans (if_pos hp)
      have hq : (p == 0) = false := beq_eq_false_iff_ne.2 hp
      clear hp
      go_wp2_with fail
      go_meet
      case rel =>
        cases he
        exact ⟨HK9.out, HF9.out, HG9.out, HD9.out, HL9.out, HB9.out⟩
    · have he := HOF.out.trans (if_neg hp)
      obtain rfl : p = 0 := Decidable.not_not.1 hp
      have HEq := hide he
      clear hp he
      go_wp2_with (first
        | (go_at_call 39; refine (HT6.out _).mono ?_; rintro e w10 ⟨rfl, hb10⟩; have HK10 := hide (HK9.out.later hb10); have HF10 := hide (HF9.out.later hb10); have HG10 := hide (HG9.out.later hb10); have HD10 := hide (HD9.out.later hb10); have HL10 := hide (HL9.out.below hb10); have HB10 := hide (HB9.out.trans (hb10.mono HB9.out.size)); clear hb10)
        | (refine wpList_store_blk rfl rfl rfl rfl HK10.out rfl Try.sizeFaultE rfl ?_; intro w11 hK11 hg11; have HK11 := hide hK11; have HG11x := hide hg11; clear hK11 hg11))
      go_meet
      case rel =>
        have he := HEq.out
        cases he
        exact ⟨HK11.out, HF10.out.grown HG11x.out (fun z => by simp at z; omega), HG10.out.grown HG11x.out (fun z => by simp at z; omega), HD10.out.grown HG11x.out (fun z => by simp at z; omega), HL10.out.grownEnt HG11x.out HK10.out, below_grownO HB10.out HG11x.out (fun k hk => by cases hk; omega) HB10.out.size⟩
  case rest =>
  obtain ⟨hK, hF, hG, hD, hL, hB⟩ := hcut
  have HKc := hide hK
  have HFc := hide hF
  have HGc := hide hG
  have HDc := hide hD
  have HLc := hide hL
  have HBc := hide hB
  have k0 := hK.cell 0
  have k1 := hK.cell 1
  have kl := hK.lt
  have f0 := hF.cell 0
  have f1 := hF.cell 1
  have fl := hF.lt
  simp at k0 k1 f0 f1
  clear hK hF hG hD hL hB HK9 HF9 HG9 HD9 HL9 HB9 HOF
  go_upto_region 16 with fail
  go_cut [99] (fun x wd => x = .bool false ∧ wc = wd)
  case first =>
    by_cases hf : f ≠ 0
    · obtain rfl : OR = false := HOR.out.trans (if_pos hf)
      have hq : (f == 0) = false := beq_eq_false_iff_ne.2 hf
      clear hf
      go_wp2_with fail
      go_meet
      case rel => exact ⟨by simp, rfl⟩
    · obtain rfl : OR = OB := HOR.out.trans (if_neg hf)
      obtain rfl : f = 0 := Decidable.not_not.1 hf
      have HOL := hide (HT9.out _ _ (HA.out.below HBc.out))
      clear hf
      cases OR
      all_goals
        go_wp2_with (go_at_call 40; refine HOL.out.mono ?_; rintro e w10 ⟨rfl, rfl⟩)
        go_meet
        case rel => exact ⟨by simp, rfl⟩
  case rest =>
  obtain ⟨rfl, rfl⟩ := hcut
  clear k0 k1 f0 f1 HFc
  go_wp2_with fail
  refine (HT7.out _ _ _ (HA.out.below HBc.out) (HB.out.below HBc.out)).mono ?_
  rintro e w12 ⟨v12, rfl, hm12, hb12⟩
  obtain ⟨mo, mc, rfl, _, _⟩ := hm12.shape
  have HK12 := hide (HKc.out.later hb12)
  have HG12 := hide (HGc.out.later hb12)
  have HD12 := hide (HDc.out.later hb12)
  have HL12 := hide (HLc.out.below hb12)
  have HM12 := hide hm12
  have HB12 := hide (HBc.out.trans (hb12.mono HBc.out.size))
  clear hm12 hb12 HKc HGc HDc HLc HBc
  go_upto_region 19 with (refine wpList_store_blk rfl rfl rfl rfl HK12.out rfl Try.sizeFaultE rfl ?_; intro w13 hK13 hg13; have HK13 := hide hK13; have HG13 := hide (HG12.out.grown hg13 (fun z => by simp at z; omega)); have HD13 := hide (HD12.out.grown hg13 (fun z => by simp at z; omega)); have HL13 := hide (HL12.out.grownEnt hg13 HK12.out); have HM13 := hide (HM12.out.grownEnt hg13 HK12.out); have HB13 := hide (below_grownO HB12.out hg13 (fun k hk => by cases hk; omega) HB12.out.size); clear hK13 hg13)
  have k0 := HK13.out.cell 0
  have k1 := HK13.out.cell 1
  have kl2 := HK13.out.lt
  have g0 := HG13.out.cell 0
  have g1 := HG13.out.cell 1
  have gl2 := HG13.out.lt
  simp at k0 k1 g0 g1
  have HSM := hide (SameLog_any _ _ PL2 _ HL13.out HM13.out)
  dsimp only [Act.put]
  go_cut [122] (fun x wd => x = .bool false ∧ Below w13.heap.size w13 wd)
  case first =>
    cases PI
    all_goals
      go_wp2_with (go_at_call 37; refine HSM.out.mono ?_; rintro e w14 ⟨rfl, hb14⟩)
      go_meet
      case rel => exact ⟨by simp, hb14⟩
  case rest =>
  obtain ⟨rfl, hbd⟩ := hcut
  have HKd := hide (HK13.out.later hbd)
  have HDd := hide (HD13.out.later hbd)
  have HBd := hide (HB13.out.trans (hbd.mono HB13.out.size))
  clear hbd k0 k1 g0 g1 HSM HL13 HM13 HK13 HG13 HD13 HB13
  go_wp2_with fail
  refine (HT8.out _ _ _ (HA.out.below HBd.out) (HB.out.below HBd.out)).mono ?_
  rintro e w15 ⟨rfl, hb15⟩
  have HK15 := hide (HKd.out.later hb15)
  have HD15 := hide (HDd.out.later hb15)
  have HB15 := hide (HBd.out.trans (hb15.mono HBd.out.size))
  clear hb15 HKd HDd HBd
  go_upto_region 22 with (refine wpList_store_blk rfl rfl rfl rfl HK15.out rfl Try.sizeFaultE rfl ?_; intro w16 hK16 hg16; have HK16 := hide hK16; have HD16 := hide (HD15.out.grown hg16 (fun z => by simp at z; omega)); have HB16 := hide (below_grownO HB15.out hg16 (fun k hk => by cases hk; omega) HB15.out.size); clear hK16 hg16)
  have HA16 := hide (HA.out.below HB16.out)
  have HBB16 := hide (HB.out.below HB16.out)
  have hK16 := HK16.out
  have hD16 := HD16.out
  go_wp2_with fail
  go_loopw [22, 23] (fun wv iv wr => ∃ (i : Nat), i ≤ a.length ∧ i ≤ b.length ∧ iv = .int .i64 i ∧ wv = .int .i64 (agGo a b i) ∧ (c ≠ 0 → i = 0) ∧ Below w16.heap.size w16 wr)
    (fun _ iv _ => a.length - (intOf iv).toNat)
  case atStart => exact ⟨0, by omega, by omega, rfl, rfl, fun _ => rfl, Below.refl _ _⟩
  case round =>
    obtain ⟨i, hia, hib, rfl, rfl, hci, hbr⟩ := hrel
    have HCI := hide hci
    have HBr := hide hbr
    have hKr := HK16.out.later hbr
    have hDr := HD16.out.later hbr
    have k0 := hKr.cell 0
    have k1 := hKr.cell 1
    have kl3 := hKr.lt
    have d0 := hDr.cell 0
    have d1 := hDr.cell 1
    have dl3 := hDr.lt
    simp at k0 k1 d0 d1
    have hAG := agGo_le a b i
    clear hci hKr hDr hK16 hD16
    generalize hAGi : agGo a b i = AG at *
    have HAG := hide hAGi
    clear hAGi
    go_upto_region 24 with fail
    go_cut [140] (fun x wc => x = .bool (decide (c = 0 ∧ i < a.length ∧ i < b.length)) ∧ wr = wc)
    case first =>
      by_cases h1 : i < a.length
      · have e1 : decide ((i : Int) < (a.length : Int)) = true := decide_eq_true (by omega)
        by_cases h2 : i < b.length
        · have e2 : decide ((i : Int) < (b.length : Int)) = true := decide_eq_true (by omega)
          by_cases h3 : c = 0
          · have HE := hide (show decide (c = 0 ∧ i < a.length ∧ i < b.length) = true from decide_eq_true ⟨h3, h1, h2⟩)
            have e3 : (c == 0) = true := by simp [h3]
            clear h3
            go_wp2_with fail
            go_meet
            case rel => exact ⟨by rw [HE.out], rfl⟩
          · have HE := hide (show decide (c = 0 ∧ i < a.length ∧ i < b.length) = false from decide_eq_false (fun q => h3 q.1))
            have e3 : (c == 0) = false := beq_eq_false_iff_ne.2 h3
            clear h3
            go_wp2_with fail
            go_meet
            case rel => exact ⟨by rw [HE.out], rfl⟩
        · have e2 : decide ((i : Int) < (b.length : Int)) = false := decide_eq_false (by omega)
          have e2n : decide (i < b.length) = false := decide_eq_false h2
          have HE := hide (show decide (c = 0 ∧ i < a.length ∧ i < b.length) = false from decide_eq_false (fun q => h2 q.2.2))
          go_wp2_with fail
          go_meet
          case rel => exact ⟨by rw [HE.out], rfl⟩
      · have e1 : decide ((i : Int) < (a.length : Int)) = false := decide_eq_false (by omega)
        have e1n : decide (i < a.length) = false := decide_eq_false h1
        have HE := hide (show decide (c = 0 ∧ i < a.length ∧ i < b.length) = false from decide_eq_false (fun q => h1 q.2.1))
        go_wp2_with fail
        go_meet
        case rel => exact ⟨by rw [HE.out], rfl⟩
    case rest =>
      obtain ⟨rfl, rfl⟩ := hcut
      by_cases hall : c = 0 ∧ i < a.length ∧ i < b.length
      · have HE := hide (decide_eq_true hall)
        rw [HE.out]
        obtain ⟨hc0, h1, h2⟩ := hall
        obtain ⟨e, he⟩ : ∃ e, a[i]? = some e := ⟨_, List.getElem?_eq_getElem h1⟩
        obtain ⟨z, hz⟩ : ∃ e, b[i]? = some e := ⟨_, List.getElem?_eq_getElem h2⟩
        obtain ⟨b1, o1, rfl, hb1, hat1⟩ := HA16.out.here he
        obtain ⟨b2, o2, rfl, hb2, hat2⟩ := HBB16.out.here hz
        obtain ⟨q0, q1⟩ := (hat1.below hbr).ent
        obtain ⟨p0, p1⟩ := (hat2.below hbr).ent
        have HYes := hide (fun h => agGo_yes (a := a) (b := b) he hz h)
        have HNo := hide (fun h => agGo_no (a := a) (b := b) he hz h)
        have HC0 := hide hc0
        have hk1 : (0 : Int) ≤ (i : Int) := by omega
        have hk2 : (i : Int) < (a.length : Int) := by omega
        have hk3 : (i : Int) < (b.length : Int) := by omega
        clear hat1 hat2 he hz hc0 hbr
        by_cases hte : e.term = z.term
        · have HN := hide (HYes.out hte)
          have hq : (e.term == z.term) = true := by simp [hte]
          clear hte
          go_wp2_with fail
          go_quiet (fail)
          go_wp2_with fail
          go_roundw
          case rel => exact ⟨i + 1, by omega, by omega, by go_num, by rw [HN.out]; go_num, fun h => absurd HC0.out h, below_drewN HBr.out _⟩
          case measure => simp [intOf]; omega
        · have HN := hide (HNo.out hte)
          have hq : (e.term == z.term) = false := beq_eq_false_iff_ne.2 hte
          clear hte
          go_wp2_with fail
          go_quiet (fail)
          go_wp2_with fail
          go_roundw
          case rel => exact ⟨i + 1, by omega, by omega, by go_num, by rw [HN.out, HAG.out], fun h => absurd HC0.out h, below_drewN HBr.out _⟩
          case measure => simp [intOf]; omega
      · have HE := hide (decide_eq_false hall)
        rw [HE.out]
        have hAN : AN = AG := by
          rw [HAN.out]
          by_cases hc : c = 0
          · rw [if_pos hc, ← HAG.out]
            congr 1
            omega
          · rw [if_neg hc, ← HAG.out, HCI.out hc]
            rfl
        have HW := hide (HB16.out.trans (HBr.out.mono HB16.out.size))
        subst hAN
        clear hbr hall
        go_wp2_with fail
        go_ret
        exact ⟨by simp, HW.out⟩

end Go.Proofs.Ytpojgcjigjenoag
