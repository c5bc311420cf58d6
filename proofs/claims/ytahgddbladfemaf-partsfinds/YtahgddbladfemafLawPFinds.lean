/-
  The walk over the law PartsFinds.
-/
import Derived.Test.YtahgddbladfemafPartW9
import Derived.Test.YtahgddbladfemafPartB1
import Derived.Test.YtahgddbladfemafPartR2
namespace Go.Proofs.Ytahgddbladfemaf
open Go.RowKit
set_option linter.unusedVariables false

/-- Where the row has been found among the first j. -/
def atJ (k j : Nat) : Int := if k < j then (k : Int) else -1

theorem atJ_hit (k : Nat) : atJ k k = -1 := by simp [atJ]
theorem atJ_succ (k : Nat) : atJ k (k + 1) = k := by simp [atJ]
theorem atJ_other {k j : Nat} (h : j ≠ k) : atJ k (j + 1) = atJ k j := by
  unfold atJ
  by_cases h1 : k < j
  · rw [if_pos h1, if_pos (by omega)]
  · rw [if_neg h1, if_neg (by omega)]

set_option maxRecDepth 100000 in
set_option maxHeartbeats 8000000 in
theorem partsFinds_any (v : Value) (l : List Pt) (row a b : ByteArray) (w : World) (hv : RdG pE w v l) (hwf : WfP l) :
    Calls Try.prog 3 #[v, .string row, .string a, .string b] w fun e w' => e = .returned (.bool true) ∧ Below w.heap.size w w' := by
  have HV := hide hv
  obtain ⟨ao, cap, hvv, hc1, hc2⟩ := hv.shape
  subst hvv
  unfold maxLen at hc2
  go_enter Try.func3, Try.ntmps3
  go_wp2_with fail
  refine (partsBegun_any _).mono ?_
  rintro e w1 ⟨rfl, hb1⟩
  by_cases hbig : 1000 < l.length
  · go_wp2_with fail
    go_ret
    exact ⟨rfl, hb1⟩
  go_wp2_with fail
  refine (ownParts_any _ l _ (HV.out.below hb1) (by omega)).mono ?_
  rintro e w2 ⟨v2, rfl, hx2, hb2, _⟩
  have hbw2 := hb1.trans (hb2.mono hb1.size)
  obtain ⟨xo, xc, hxx, hx3, hx4⟩ := hx2.shape
  subst hxx
  unfold maxLen at hx4
  have HX2 := hide hx2
  clear hb2 hx2
  go_wp2_with fail
  refine (Find_any _ l row _ HX2.out hwf).mono ?_
  rintro e w3 ⟨rfl, hb3⟩
  have hbw3 := hbw2.trans (hb3.mono hbw2.size)
  have HX3 := hide (HX2.out.below hb3)
  generalize hC : chkP l = C at *
  have HC := hide hC
  obtain ⟨x, y⟩ := C
  clear hC hb3
  have hbA := below_allocG w3 (.cells #[.int .i64 x, .int .i64 y] 26)
  have hme := Meet_any _ l a b _ (HX3.out.below hbA) hwf
  rw [HC.out] at hme
  have HME := hide hme
  have HBA := hide hbA
  clear hme hbA
  unfold flt
  unfold flt at HME
  go_wp2_with fail
  refine HME.out.mono ?_
  rintro e w4 ⟨rfl, hb4⟩
  have hF4 := (Blk.new w3 26 #[.int .i64 x, .int .i64 y]).later hb4
  have hb34 : Below w3.heap.size w3 w4 := HBA.out.trans (hb4.mono (by simp))
  have hbw4 := hbw3.trans (hb34.mono hbw3.size)
  have HX4 := hide (HX3.out.below hb34)
  have hbB := below_allocG w4 (.cells #[.int .i64 x, .int .i64 y] 26)
  have hpf := PartsFault_any _ l _ ((HV.out.below hbw4).below hbB)
  rw [HC.out] at hpf
  have HPF := hide hpf
  have HBB := hide hbB
  clear hpf hbB hb4 hb34
  unfold flt at HPF
  go_wp2_with fail
  refine HPF.out.mono ?_
  rintro e w5 ⟨rfl, hb5⟩
  have hG5 := (Blk.new w4 26 #[.int .i64 x, .int .i64 y]).later hb5
  have hb45 : Below w4.heap.size w4 w5 := HBB.out.trans (hb5.mono (by simp))
  have hF5 := hF4.later hb45
  have hbw5 := hbw4.trans (hb45.mono hbw4.size)
  have HX5 := hide (HX4.out.below hb45)
  have hbC := below_allocG w5 (.cells #[.int .i64 x, .int .i64 y] 26)
  have HSM := hide (SameParts_any _ _ l _ (HX5.out.below hbC) ((HV.out.below hbw5).below hbC))
  have HBC := hide hbC
  have p0 := hF5.cell 0
  have p1 := hF5.cell 1
  have pl := hF5.lt
  have q0 := hG5.cell 0
  have q1 := hG5.cell 1
  have ql := hG5.lt
  simp at p0 p1 q0 q1
  clear hbC hb5 hb45 hF4
  generalize hM : meetF l a b = ME at *
  generalize hFi : findR l row = FI at *
  obtain ⟨mf, mm⟩ := ME
  have HMF := hide hM
  have HFI := hide hFi
  clear hM hFi
  go_wp2_with fail
  refine HSM.out.mono ?_
  rintro e w6 ⟨rfl, hb6⟩
  have hb56 : Below w5.heap.size w5 w6 := HBC.out.trans (hb6.mono (by simp))
  have hbw6 := hbw5.trans (hb56.mono hbw5.size)
  have hW6 := (Blk.new w5 26 #[.int .i64 x, .int .i64 y]).later hb6
  have r0 := hW6.cell 0
  have rl := hW6.lt
  simp at r0
  have HV6 := hide (HV.out.below hbw6)
  clear hb6 p0 p1 pl q0 q1 ql hG5 hF5
  by_cases hx : x = 0
  · subst hx
    have hz : (chkP l).1 = 0 := by rw [HC.out]
    have hfine := chkP_fine.1 hz
    obtain ⟨k, p0, hk, hkl, hkp, hkb, hku⟩ := hvP_one (r := row) hfine
    have hFIe : FI = (k : Int) := by rw [← HFI.out, findR, if_pos hz, hk]
    have HMR : Hid (mtR (mtB a b) l 0 (0, 0) = (mf, mm)) := hide (by rw [meet_eq hfine, ← HMF.out, meetF, if_pos hz])
    have HKP := hide hkp
    have HKB := hide hkb
    have HKU := hide hku
    have hl200 := hfine.1
    subst hFIe
    clear hz hfine hk hkp hkb hku
    go_wp2_with fail
    go_loopw [16, 17, 18, 19] (fun fv mv av iv wr => ∃ (j : Nat) (f m : Int), j ≤ l.length ∧ iv = .int .i64 j ∧ fv = .int .i64 f ∧ mv = .int .i64 m ∧ av = .int .i64 (atJ k j) ∧ 0 ≤ m ∧ m ≤ j ∧ mtR (mtB a b) (l.drop j) j (f, m) = (mf, mm) ∧ Below w6.heap.size w6 wr)
      (fun _ _ _ iv _ => l.length - (intOf iv).toNat)
    case atStart => exact ⟨0, 0, 0, by omega, rfl, rfl, rfl, rfl, by omega, by omega, HMR.out, Below.refl _ _⟩
    case round =>
      obtain ⟨j, f, m, hj, rfl, rfl, rfl, rfl, hm0, hm1, hgo, hbel⟩ := hrel
      have HG := hide hgo
      clear hgo
      by_cases hlt : j < l.length
      · obtain ⟨p, hp⟩ : ∃ c, l[j]? = some c := ⟨_, List.getElem?_eq_getElem hlt⟩
        rw [drop_consI hp] at HG
        obtain ⟨bb, off, rfl, hbb, hat⟩ := HV6.out.here hp
        obtain ⟨c0, c1, c2⟩ := (hat.below hbel).part
        have hk1 : (0 : Int) ≤ (j : Int) := by omega
        have hk2 : (j : Int) < (l.length : Int) := by omega
        have HP := hide hp
        have HAT := hide hat
        clear hat hp
        go_upto_if 81 with (go_at_call 11; refine (InPart_any p row _).mono ?_; rintro e w7 ⟨rfl, hb7⟩)
        have hbel7 := hbel.trans (hb7.mono hbel.size)
        obtain ⟨d0, d1, d2⟩ := (HAT.out.below hbel7).part
        have HB7 := hide hbel7
        clear c0 c1 c2 hb7 hbel hbel7
        go_cut [18] (fun x wc => x = .int .i64 (atJ k (j + 1)) ∧ w7 = wc)
        case first =>
          cases hi : inB row p.fr p.to_
          · have hne : j ≠ k := by
              rintro rfl
              rw [HP.out] at HKP
              have := HKP.out
              cases this
              rw [hi] at HKB
              exact absurd HKB.out (by decide)
            have HA := hide (atJ_other hne)
            go_wp2_with fail
            go_meet
            case rel => exact ⟨by rw [HA.out], rfl⟩
          · have hjk : j = k := HKU.out j p HP.out hi
            have HA := hide (show atJ k (j + 1) = (j : Int) by rw [hjk]; exact atJ_succ k)
            have HB := hide (show atJ k j = -1 by rw [hjk]; exact atJ_hit k)
            rw [HB.out]
            go_wp2_with fail
            go_meet
            case rel => exact ⟨by rw [HA.out], rfl⟩
        case rest =>
          obtain ⟨rfl, rfl⟩ := hcut
          go_upto_region 21 with fail
          go_cut [121] (fun x wc => x = .bool (mtB a b p) ∧ w7 = wc)
          case first =>
            cases h1 : b.toList.isEmpty <;> cases h2 : Op.bytesLess a.toList b.toList <;> cases h3 : p.to_.toList.isEmpty <;> cases h4 : Op.bytesLess p.to_.toList a.toList <;> cases h5 : (p.to_.toList == a.toList) <;> cases h6 : Op.bytesLess p.fr.toList b.toList
            all_goals
              have HB := hide (show mtB a b p = (Bool.or b.toList.isEmpty (Op.bytesLess a.toList b.toList) && ((Bool.or p.to_.toList.isEmpty (!Op.bytesLess p.to_.toList a.toList && !(p.to_.toList == a.toList))) && (Bool.or b.toList.isEmpty (Op.bytesLess p.fr.toList b.toList)))) by rw [gtS]; rfl)
              rw [h1, h2, h3, h4, h5, h6] at HB
              go_wp2_with fail
              go_meet
              case rel => exact ⟨by rw [HB.out]; rfl, rfl⟩
          case rest =>
            obtain ⟨rfl, rfl⟩ := hcut
            clear d0 d1 d2
            cases hmt : mtB a b p
            · have HE := hide (HG.out.symm.trans (mtR_no hmt))
              go_wp2_with fail
              go_roundw
              case rel => exact ⟨j + 1, f, m, by omega, by go_num, rfl, rfl, rfl, hm0, by omega, HE.out.symm, HB7.out⟩
              case measure => simp [intOf]; omega
            · by_cases hm : m = 0
              · subst hm
                have HE := hide (HG.out.symm.trans (mtR_first hmt))
                go_wp2_with fail
                go_roundw
                case rel => exact ⟨j + 1, j, 1, by omega, by go_num, rfl, rfl, rfl, by omega, by omega, HE.out.symm, HB7.out⟩
                case measure => simp [intOf]; omega
              · have HE := hide (HG.out.symm.trans (mtR_more hmt hm))
                have hmb : (m == 0) = false := beq_eq_false_iff_ne.2 hm
                clear hm
                go_wp2_with fail
                go_roundw
                case rel => exact ⟨j + 1, f, m + 1, by omega, by go_num, rfl, by go_num, rfl, by omega, by omega, HE.out.symm, HB7.out⟩
                case measure => simp [intOf]; omega
      · have hje : j = l.length := by omega
        subst hje
        rw [List.drop_length, mtR] at HG
        have hfm := HG.out
        simp only [Prod.mk.injEq] at hfm
        obtain ⟨rfl, rfl⟩ := hfm
        have hat : atJ k l.length = (k : Int) := by unfold atJ; rw [if_pos hkl]
        rw [hat]
        go_wp2_with fail
        go_ret
        exact ⟨by simp, hbw6.trans (hbel.mono hbw6.size)⟩
  · have hz : ¬ (chkP l).1 = 0 := by rw [HC.out]; exact hx
    have h1 : FI = 0 := by rw [← HFI.out, findR, if_neg hz]
    have h2 : mf = 0 ∧ mm = 0 := by
      have := HMF.out
      rw [meetF, if_neg hz] at this
      simp only [Prod.mk.injEq] at this
      exact ⟨this.1.symm, this.2.symm⟩
    obtain ⟨rfl, rfl⟩ := h2
    subst h1
    have hxb : (x == 0) = false := beq_eq_false_iff_ne.2 hx
    have hxb2 : (x != 0) = true := by simp [hx]
    clear hx hz
    go_wp2_with fail
    go_ret
    exact ⟨by simp, hbw6⟩

end Go.Proofs.Ytahgddbladfemaf
