/-
  The walk over the law PartsDoes. (Written by lawpdoes.py.)
-/
import Derived.Test.YtahgddbladfemaePartB2
import Derived.Test.YtahgddbladfemaePartW7
import Derived.Test.YtahgddbladfemaePartR2
import Derived.Test.YtahgddbladfemaeStepMath
namespace Go.Proofs.Ytahgddbladfemae
open Go.RowKit
set_option linter.unusedVariables false

theorem getD_some {l : List Pt} {k : Nat} {p : Pt} (h : l[k]? = some p) : l.getD k zeroPt = p := by rw [List.getD_eq_getElem?_getD, h]; rfl

set_option maxRecDepth 100000 in
set_option maxHeartbeats 16000000 in
theorem partsDoes_any (v : Value) (l : List Pt) (at_ : Int) (row : ByteArray) (left right : Int) (w : World) (hv : RdG pE w v l) (hwf : WfP l) :
    Calls Try.prog 3 #[v, .int .i64 at_, .string row, .int .i64 left, .int .i64 right] w fun e w' => e = .returned (.bool true) ∧ Below w.heap.size w w' := by
  have HV := hide hv
  obtain ⟨ao, cap, hvv, hc1, hc2⟩ := hv.shape
  subst hvv
  unfold maxLen at hc2
  have hPB := pbx_new w 22 3 9 (.slice ao l.length cap) at_ row left right
  obtain ⟨wB, hwB⟩ : ∃ z, z = ((((w.alloc (.cells #[.slice ao l.length cap] 22)).alloc (.cells #[.int .i64 at_] 3)).alloc (.cells #[.string row] 9)).alloc (.cells #[.int .i64 left] 3)).alloc (.cells #[.int .i64 right] 3) := ⟨_, rfl⟩
  have hbB : Below w.heap.size w wB := by rw [hwB]; go_grown
  rw [← hwB] at hPB
  have HWB := hide hwB
  have HBB := hide hbB
  have HPB := hide hPB
  clear hbB hPB hwB
  go_enter Try.func3, Try.ntmps3
  go_wp2_with fail
  rw [← HWB.out]
  clear HWB
  refine (partsBegun_any _).mono ?_
  rintro e w1 ⟨rfl, hb1⟩
  have hP1 := HPB.out.below hb1 HPB.out.lt
  have hbw1 := HBB.out.trans (hb1.mono HBB.out.size)
  have HP1 := hide hP1
  obtain ⟨b0, b1, b2, b3, b4⟩ := hP1
  clear hb1 HPB HBB
  by_cases hbig : 1000 < l.length
  · go_wp2_with fail
    go_ret
    exact ⟨rfl, hbw1⟩
  go_wp2_with fail
  refine (ownParts_any _ l _ (HV.out.below hbw1) (by omega)).mono ?_
  rintro e w2 ⟨v2, rfl, hx2, hb2, _⟩
  have hbw2 := hbw1.trans (hb2.mono hbw1.size)
  have HP2 := hide (HP1.out.below hb2 HP1.out.lt)
  obtain ⟨xo, xc, hxx, hx3, hx4⟩ := hx2.shape
  subst hxx
  unfold maxLen at hx4
  have HX2 := hide hx2
  clear hb2 hx2 b0 b1 b2 b3 b4 HP1
  generalize hC : chkP l = C at *
  have HC := hide hC
  obtain ⟨cx, cy⟩ := C
  generalize hSF : splitF l at_ row left right = SF at *
  have HSF := hide hSF
  obtain ⟨sx, sy⟩ := SF
  generalize hJF : joinF l at_ left = JF at *
  have HJF := hide hJF
  obtain ⟨jx, jy⟩ := JF
  clear hC hSF hJF
  have hck := PCheck_any _ l _ HX2.out hwf
  rw [HC.out] at hck
  unfold flt at hck
  have HCK := hide hck
  clear hck
  go_wp2_with fail
  refine HCK.out.mono ?_
  rintro e w3 ⟨rfl, hb3⟩
  have hbw3 := hbw2.trans (hb3.mono hbw2.size)
  have hbA3 := below_allocG w3 (.cells #[.int .i64 cx, .int .i64 cy] 26)
  have hP3 := (HP2.out.below hb3 HP2.out.lt).below hbA3 (HP2.out.below hb3 HP2.out.lt).lt
  have HX3 := hide ((HX2.out.below hb3).below hbA3)
  have hC3 := Blk.new w3 26 #[.int .i64 cx, .int .i64 cy]
  have hbw3' := hbw3.trans (hbA3.mono hbw3.size)
  generalize hW3 : w3.alloc (.cells #[.int .i64 cx, .int .i64 cy] 26) = w3a at *
  have HP3 := hide hP3
  have HC3 := hide hC3
  obtain ⟨b0, b1, b2, b3, b4⟩ := hP3
  have hsp := Split_any _ l at_ row left right _ HX3.out hwf
  rw [HSF.out] at hsp
  unfold flt at hsp
  have HSP := hide hsp
  have HW3 := hide hW3
  clear hsp hC3 hb3 hbA3 HX2 HP2 HCK hbw3 hW3
  go_upto_region 7 with fail
  rw [HW3.out]
  go_wp2_with fail
  refine HSP.out.mono ?_
  rintro e w4 ⟨v4, rfl, hs4, hb4, _⟩
  have hbw4 := hbw3'.trans (hb4.mono hbw3'.size)
  have HP4' := HP3.out.below hb4 HP3.out.lt
  have hbA4 := below_allocG w4 (.cells #[.int .i64 sx, .int .i64 sy] 26)
  have hP4 := HP4'.below hbA4 HP4'.lt
  have HX4 := hide ((HX3.out.below hb4).below hbA4)
  have HC4 := hide ((HC3.out.later hb4).later hbA4)
  have HS4 := hide (hs4.below hbA4)
  have hF4 := Blk.new w4 26 #[.int .i64 sx, .int .i64 sy]
  have hbw4' := hbw4.trans (hbA4.mono hbw4.size)
  obtain ⟨so, sc4, hso, _, _⟩ := hs4.shape
  subst hso
  generalize hW4 : w4.alloc (.cells #[.int .i64 sx, .int .i64 sy] 26) = w4a at *
  have HP4 := hide hP4
  have HF4 := hide hF4
  obtain ⟨b0, b1, b2, b3, b4⟩ := hP4
  have hjn := Join_any _ l at_ left _ HX4.out hwf
  rw [HJF.out] at hjn
  unfold flt at hjn
  have HJN := hide hjn
  have HW4 := hide hW4
  clear hjn hF4 hb4 hbA4 HX3 HP3 HSP hbw4 hbw3' hW4 HC3 hs4 HP4' HW3 hbw2 hbw1
  go_upto_region 8 with fail
  rw [HW4.out]
  go_wp2_with fail
  refine HJN.out.mono ?_
  rintro e w5 ⟨v5, rfl, hj5, hb5, _⟩
  have hbw5 := hbw4'.trans (hb5.mono hbw4'.size)
  have HP5' := HP4.out.below hb5 HP4.out.lt
  have hbA5 := below_allocG w5 (.cells #[.int .i64 jx, .int .i64 jy] 26)
  have hP5 := HP5'.below hbA5 HP5'.lt
  have HX5 := hide ((HX4.out.below hb5).below hbA5)
  have HC5 := hide ((HC4.out.later hb5).later hbA5)
  have HS5 := hide ((HS4.out.below hb5).below hbA5)
  have HF5 := hide ((HF4.out.later hb5).later hbA5)
  have HJ5 := hide (hj5.below hbA5)
  have hG5 := Blk.new w5 26 #[.int .i64 jx, .int .i64 jy]
  have hbw5' := hbw5.trans (hbA5.mono hbw5.size)
  obtain ⟨jo, jc5, hjo, _, _⟩ := hj5.shape
  subst hjo
  generalize hW5 : w5.alloc (.cells #[.int .i64 jx, .int .i64 jy] 26) = w5a at *
  have HP5 := hide hP5
  have HG5 := hide hG5
  obtain ⟨b0, b1, b2, b3, b4⟩ := hP5
  have hpf := PartsFault_any _ l _ (HV.out.below hbw5')
  rw [HC.out] at hpf
  unfold flt at hpf
  have HPF := hide hpf
  have HW5 := hide hW5
  clear hpf hG5 hb5 hbA5 HX4 HP4 HJN hbw5 hbw4' hW5 HC4 HS4 HF4 hj5 HP5' HW4
  go_upto_region 9 with fail
  rw [HW5.out]
  go_wp2_with fail
  refine HPF.out.mono ?_
  rintro e w6 ⟨rfl, hb6⟩
  have hbw6 := hbw5'.trans (hb6.mono hbw5'.size)
  have HP6' := HP5.out.below hb6 HP5.out.lt
  have hbA6 := below_allocG w6 (.cells #[.int .i64 cx, .int .i64 cy] 26)
  have hP6 := HP6'.below hbA6 HP6'.lt
  have HX6 := hide ((HX5.out.below hb6).below hbA6)
  have hC6 := (HC5.out.later hb6).later hbA6
  have HS6 := hide ((HS5.out.below hb6).below hbA6)
  have HF6 := hide ((HF5.out.later hb6).later hbA6)
  have HJ6 := hide ((HJ5.out.below hb6).below hbA6)
  have HG6 := hide ((HG5.out.later hb6).later hbA6)
  have hW6 := Blk.new w6 26 #[.int .i64 cx, .int .i64 cy]
  have hbw6' := hbw6.trans (hbA6.mono hbw6.size)
  generalize hW6a : w6.alloc (.cells #[.int .i64 cx, .int .i64 cy] 26) = w6a at *
  have c0 := hC6.cell 0
  have c1 := hC6.cell 1
  have cl := hC6.lt
  have d0 := hW6.cell 0
  have d1 := hW6.cell 1
  have dl := hW6.lt
  simp at c0 c1 d0 d1
  have HP6 := hide hP6
  have HW6 := hide hW6
  obtain ⟨b0, b1, b2, b3, b4⟩ := hP6
  have HSM := hide (SameParts_any _ _ l _ HX6.out (HV.out.below hbw6'))
  have HW6a := hide hW6a
  clear hW6 hb6 hbA6 HX5 HP5 HPF hbw6 hbw5' hW6a HC5 HS5 HF5 HJ5 HG5 HP6' HW5 hC6
  go_upto_region 10 with fail
  rw [HW6a.out]
  go_wp2_with fail
  refine HSM.out.mono ?_
  rintro e w7 ⟨rfl, hb7⟩
  have hbw7 := hbw6'.trans (hb7.mono hbw6'.size)
  have HK : Hid (∀ W, Below w7.heap.size w7 W → PBx W w.heap.size (.slice ao l.length cap) at_ row left right ∧ RdG pE W (.slice ao l.length cap) l) := hide fun W hW =>
    ⟨(HP6.out.below hb7 HP6.out.lt).below hW (HP6.out.below hb7 HP6.out.lt).lt, (HV.out.below hbw7).below hW⟩
  have HS7 := hide (HS6.out.below hb7)
  have HF7 := hide (HF6.out.later hb7)
  have HJ7 := hide (HJ6.out.below hb7)
  have HG7 := hide (HG6.out.later hb7)
  have hW7 := HW6.out.later hb7
  have HW7 := hide hW7
  have d0 := hW7.cell 0
  have d1 := hW7.cell 1
  have dl := hW7.lt
  simp at d0 d1
  obtain ⟨wA, hwA⟩ : ∃ z, z = w7 := ⟨_, rfl⟩
  subst hwA
  obtain ⟨V, hVd⟩ : ∃ z, z = wA.heap.size := ⟨_, rfl⟩
  have HQ := hide HC.out
  have hVX : Blk (wA.alloc (.cells #[.int .i64 cx, .int .i64 cy] 26)) V 26 #[.int .i64 cx, .int .i64 cy] := by rw [hVd]; exact Blk.new _ _ _
  have hbX : Below V wA (wA.alloc (.cells #[.int .i64 cx, .int .i64 cy] 26)) := by rw [hVd]; exact below_allocG _ _
  rw [← hVd] at HK
  have HVD := hide hVd
  have HBW := hide hbw7
  obtain ⟨wX, hwX⟩ : ∃ z, z = wA.alloc (.cells #[.int .i64 cx, .int .i64 cy] 26) := ⟨_, rfl⟩
  rw [← hwX] at hVX hbX
  have HWX := hide hwX
  clear hwX hVd hb7 HP6 HX6 HS6 HF6 HJ6 HG6 HW6 HSM HW6a c0 c1 cl b0 b1 b2 b3 b4 hbw7 hbw6' hW7
  go_upto_region 13 with fail
  rw [← HWX.out, ← HVD.out]
  clear HWX d0 d1 dl
  obtain ⟨b0, b1, b2, b3, b4⟩ := (HK.out _ hbX).1
  have hrl := (HK.out _ hbX).2
  have v0 := hVX.cell 0
  have v1 := hVX.cell 1
  have vg0 := hVX.frozen 0
  have vg1 := hVX.frozen 1
  have vl := hVX.lt
  simp at v0 v1
  go_cut [68] (fun b wc => b = .bool ((cx == 0) && outB l at_) ∧ Blk wc V 26 #[.int .i64 cx, .int .i64 cy] ∧ Below V wA wc)
  case first =>
    as_aux_lemma =>
      cases hx0 : (cx == 0)
      · have hx1 : cx ≠ 0 := by simpa using hx0
        clear hx1
        go_wp2_with fail
        go_meet
        case rel => exact ⟨by rw [hx0, Bool.false_and], hVX, hbX⟩
      · have hx1 : cx = 0 := by simpa using hx0
        have HX1 := hide hx1
        clear hx1
        by_cases h1 : at_ < 0
        · have hd : decide (at_ < 0) = true := decide_eq_true h1
          go_wp2_with fail
          go_meet
          case rel => exact ⟨by rw [hx0]; unfold outB; rw [hd]; rfl, hVX, hbX⟩
        · have hd : decide (at_ < 0) = false := decide_eq_false h1
          go_wp2_with fail
          go_meet
          case rel => exact ⟨by rw [hx0]; unfold outB; rw [hd]; rfl, hVX, hbX⟩
  case rest =>
    obtain ⟨rfl, hVY, hbY⟩ := hcut
    obtain ⟨wY, hwY⟩ : ∃ z, z = wc := ⟨_, rfl⟩
    subst hwY
    clear hVX hbX b0 b1 b2 b3 b4 v0 v1 vg0 vg1 vl hrl
    have v0 := hVY.cell 0
    have v1 := hVY.cell 1
    have vg0 := hVY.frozen 0
    have vg1 := hVY.frozen 1
    have vl := hVY.lt
    simp at v0 v1
    go_upto_if 68 with fail
    go_cut [] (fun wc => Blk wc V 26 #[.int .i64 (stepF (outB l at_) (3, -1) (cx, cy)).1, .int .i64 (stepF (outB l at_) (3, -1) (cx, cy)).2] ∧ Below V wA wc)
    case first =>
      as_aux_lemma =>
        cases hT : ((cx == 0) && outB l at_)
        · have HS := hide (show stepF (outB l at_) (3, -1) (cx, cy) = (cx, cy) by unfold stepF; rw [if_neg]; simp only; rw [hT]; decide)
          go_wp2_with fail
          go_meet
          case rel => exact ⟨by rw [HS.out]; exact hVY, hbY⟩
        · have HS := hide (show stepF (outB l at_) (3, -1) (cx, cy) = (3, -1) by unfold stepF; rw [if_pos]; simp only; exact hT)
          go_wp2_with fail
          refine (rF_any 3 (-1) _).mono ?_
          rintro e w9 ⟨rfl, hb9⟩
          have hV9 := hVY.later hb9
          have hb9' : Below V wA w9 := hbY.trans (hb9.mono (by omega))
          have u0 := hV9.cell 0
          have u1 := hV9.cell 1
          have ug0 := hV9.frozen 0
          have ug1 := hV9.frozen 1
          have ul := hV9.lt
          simp at u0 u1
          clear v0 v1 vg0 vg1
          unfold flt
          go_wp2_with fail
          go_meet
          case rel => exact ⟨by rw [HS.out]; exact (hV9.set 0 _).set 1 _, (hb9'.setCell (p := ⟨V, 0, none⟩) (Nat.le_refl _) _).setCell (p := ⟨V, 1, none⟩) (Nat.le_refl _) _⟩
    case rest =>
      obtain ⟨hVX, hbX⟩ := hcut
      obtain ⟨wX, hwX⟩ : ∃ z, z = wc := ⟨_, rfl⟩
      subst hwX
      clear hVY hbY v0 v1 vg0 vg1 vl
      have HQ2 : Hid (sp1 l at_ = stepF (outB l at_) (3, -1) (cx, cy)) := hide (by unfold sp1; rw [HQ.out])
      clear HQ
      generalize stepF (outB l at_) (3, -1) (cx, cy) = S at *
      obtain ⟨x', y'⟩ := S
      have HQ := hide HQ2.out
      clear HQ2
      simp only at hVX
      obtain ⟨x, y, hxy⟩ : ∃ x y : Int, x = x' ∧ y = y' := ⟨_, _, rfl, rfl⟩
      obtain ⟨hxx, hyy⟩ := hxy
      subst hxx hyy
      go_upto_region 15 with fail
      obtain ⟨b0, b1, b2, b3, b4⟩ := (HK.out _ hbX).1
      have hrl := (HK.out _ hbX).2
      have v0 := hVX.cell 0
      have v1 := hVX.cell 1
      have vg0 := hVX.frozen 0
      have vg1 := hVX.frozen 1
      have vl := hVX.lt
      simp at v0 v1
      go_cut [77] (fun b wc => b = .bool ((x == 0) && decide (40 < row.size)) ∧ Blk wc V 26 #[.int .i64 x, .int .i64 y] ∧ Below V wA wc)
      case first =>
        as_aux_lemma =>
          cases hx0 : (x == 0)
          · have hx1 : x ≠ 0 := by simpa using hx0
            clear hx1
            go_wp2_with fail
            go_meet
            case rel => exact ⟨by rw [hx0, Bool.false_and], hVX, hbX⟩
          · have hx1 : x = 0 := by simpa using hx0
            have HX1 := hide hx1
            clear hx1
            go_wp2_with fail
            go_meet
            case rel => exact ⟨by rw [hx0, Bool.true_and]; exact congrArg Value.bool (decide_eq_decide.2 (by omega)), hVX, hbX⟩
      case rest =>
        obtain ⟨rfl, hVY, hbY⟩ := hcut
        obtain ⟨wY, hwY⟩ : ∃ z, z = wc := ⟨_, rfl⟩
        subst hwY
        clear hVX hbX b0 b1 b2 b3 b4 v0 v1 vg0 vg1 vl hrl
        have v0 := hVY.cell 0
        have v1 := hVY.cell 1
        have vg0 := hVY.frozen 0
        have vg1 := hVY.frozen 1
        have vl := hVY.lt
        simp at v0 v1
        go_upto_if 77 with fail
        go_cut [] (fun wc => Blk wc V 26 #[.int .i64 (stepF (decide (40 < row.size)) (8, -2) (x, y)).1, .int .i64 (stepF (decide (40 < row.size)) (8, -2) (x, y)).2] ∧ Below V wA wc)
        case first =>
          as_aux_lemma =>
            cases hT : ((x == 0) && decide (40 < row.size))
            · have HS := hide (show stepF (decide (40 < row.size)) (8, -2) (x, y) = (x, y) by unfold stepF; rw [if_neg]; simp only; rw [hT]; decide)
              go_wp2_with fail
              go_meet
              case rel => exact ⟨by rw [HS.out]; exact hVY, hbY⟩
            · have HS := hide (show stepF (decide (40 < row.size)) (8, -2) (x, y) = (8, -2) by unfold stepF; rw [if_pos]; simp only; exact hT)
              go_wp2_with fail
              refine (rF_any 8 (-2) _).mono ?_
              rintro e w9 ⟨rfl, hb9⟩
              have hV9 := hVY.later hb9
              have hb9' : Below V wA w9 := hbY.trans (hb9.mono (by omega))
              have u0 := hV9.cell 0
              have u1 := hV9.cell 1
              have ug0 := hV9.frozen 0
              have ug1 := hV9.frozen 1
              have ul := hV9.lt
              simp at u0 u1
              clear v0 v1 vg0 vg1
              unfold flt
              go_wp2_with fail
              go_meet
              case rel => exact ⟨by rw [HS.out]; exact (hV9.set 0 _).set 1 _, (hb9'.setCell (p := ⟨V, 0, none⟩) (Nat.le_refl _) _).setCell (p := ⟨V, 1, none⟩) (Nat.le_refl _) _⟩
        case rest =>
          obtain ⟨hVX, hbX⟩ := hcut
          obtain ⟨wX, hwX⟩ : ∃ z, z = wc := ⟨_, rfl⟩
          subst hwX
          clear hVY hbY v0 v1 vg0 vg1 vl
          have HQ2 : Hid (sp2 l at_ row = stepF (decide (40 < row.size)) (8, -2) (x, y)) := hide (by unfold sp2; rw [HQ.out])
          clear HQ
          generalize stepF (decide (40 < row.size)) (8, -2) (x, y) = S at *
          obtain ⟨x', y'⟩ := S
          have HQ := hide HQ2.out
          clear HQ2
          simp only at hVX
          obtain ⟨x, y, hxy⟩ : ∃ x y : Int, x = x' ∧ y = y' := ⟨_, _, rfl, rfl⟩
          obtain ⟨hxx, hyy⟩ := hxy
          subst hxx hyy
          go_upto_region 17 with fail
          obtain ⟨b0, b1, b2, b3, b4⟩ := (HK.out _ hbX).1
          have hrl := (HK.out _ hbX).2
          have v0 := hVX.cell 0
          have v1 := hVX.cell 1
          have vg0 := hVX.frozen 0
          have vg1 := hVX.frozen 1
          have vl := hVX.lt
          simp at v0 v1
          go_cut [99] (fun b wc => b = .bool ((x == 0) && formB l at_ row) ∧ Blk wc V 26 #[.int .i64 x, .int .i64 y] ∧ Below V wA wc)
          case first =>
            as_aux_lemma =>
              cases hx0 : (x == 0)
              · have hx1 : x ≠ 0 := by simpa using hx0
                clear hx1
                go_wp2_with fail
                go_quiet (fail)
                go_wp2_with fail
                go_meet
                case rel => exact ⟨by rw [hx0, Bool.false_and], hVX.later (below_drewN (Below.refl _ _) _), below_drewN hbX _⟩
              · have hx1 : x = 0 := by simpa using hx0
                have HX1 := hide hx1
                clear hx1
                have hz1 : (sp2 l at_ row).1 = 0 := by rw [HQ.out]; exact HX1.out
                obtain ⟨hz0, hp0, hp1⟩ := sp1_zero (sp2_zero hz1)
                obtain ⟨k, hk⟩ : ∃ k : Nat, at_ = k := ⟨at_.toNat, by omega⟩
                have hkl : k < l.length := by omega
                obtain ⟨p, hp⟩ : ∃ c, l[k]? = some c := ⟨_, List.getElem?_eq_getElem hkl⟩
                have HFB : Hid (formB l at_ row = ((row.toList == p.fr.toList) || !inB row p.fr p.to_)) := hide (by unfold formB; rw [hk, Int.toNat_natCast, getD_some hp])
                obtain ⟨b, off, hbo, hbl, hat⟩ := hrl.here hp
                subst hbo
                rw [hk] at b1
                have HK2 := hide hk
                have hk1 : (0 : Int) ≤ (k : Int) := by omega
                have hk2 : (k : Int) < (l.length : Int) := by omega
                obtain ⟨c0, c1, c2⟩ := hat.part
                have hkeep : ∀ Z, Below wX.heap.size wX Z → Z.cell? ⟨w.heap.size, 0, none⟩ = some (.slice (some ⟨b, off, none⟩) l.length cap) ∧ Z.cell? ⟨w.heap.size + 1, 0, none⟩ = some (.int .i64 k) ∧ Z.cell? ⟨w.heap.size + 1 + 1, 0, none⟩ = some (.string row) ∧ Z.cell? ⟨V, 0, none⟩ = some (.int .i64 x) ∧ Z.cell? ⟨b, off + k * 3, none⟩ = some (.string p.fr) ∧ Z.cell? ⟨b, off + k * 3 + 1, none⟩ = some (.string p.to_) ∧ Z.cell? ⟨b, off + k * 3 + 2, none⟩ = some (.int .i64 p.id) := fun Z hZ =>
                  ⟨cell_belowG b0 hZ, cell_belowG b1 hZ, cell_belowG b2 hZ, cell_belowG v0 hZ, (hat.below hZ).part⟩
                have HKEEP := hide hkeep
                clear hkeep hat hz0 hz1 hp hk hp0 hp1
                cases hr1 : (row.toList == p.fr.toList)
                · go_region_held3 (fun Z => Z.cell? ⟨w.heap.size, 0, none⟩ = some (.slice (some ⟨b, off, none⟩) l.length cap) ∧ Z.cell? ⟨w.heap.size + 1, 0, none⟩ = some (.int .i64 k) ∧ Z.cell? ⟨w.heap.size + 1 + 1, 0, none⟩ = some (.string row) ∧ Z.cell? ⟨V, 0, none⟩ = some (.int .i64 x) ∧ Z.cell? ⟨b, off + k * 3, none⟩ = some (.string p.fr) ∧ Z.cell? ⟨b, off + k * 3 + 1, none⟩ = some (.string p.to_) ∧ Z.cell? ⟨b, off + k * 3 + 2, none⟩ = some (.int .i64 p.id)) (exact HKEEP.out _ (by go_grown)) (first
                    | (go_at_call 12; refine (InPart_any p row _).mono ?_; rintro e w9 ⟨rfl, hb9⟩; have hb9' : Below wX.heap.size wX w9 := Below.trans (by go_grown) hb9))
                  all_goals
                    go_wp2_with fail
                    go_meet
                    case rel => exact ⟨by rw [hx0, HFB.out, hr1]; rfl, hVX.later hb9', hbX.trans (hb9'.mono (Nat.le_of_lt hVX.lt))⟩
                · go_wp2_with fail
                  go_quiet (fail)
                  go_wp2_with fail
                  go_meet
                  case rel => exact ⟨by rw [hx0, HFB.out, hr1]; rfl, hVX.later (below_drewN (Below.refl _ _) _), below_drewN hbX _⟩
          case rest =>
            obtain ⟨rfl, hVY, hbY⟩ := hcut
            obtain ⟨wY, hwY⟩ : ∃ z, z = wc := ⟨_, rfl⟩
            subst hwY
            clear hVX hbX b0 b1 b2 b3 b4 v0 v1 vg0 vg1 vl hrl
            have v0 := hVY.cell 0
            have v1 := hVY.cell 1
            have vg0 := hVY.frozen 0
            have vg1 := hVY.frozen 1
            have vl := hVY.lt
            simp at v0 v1
            go_upto_if 99 with fail
            go_cut [] (fun wc => Blk wc V 26 #[.int .i64 (stepF (formB l at_ row) (5, -2) (x, y)).1, .int .i64 (stepF (formB l at_ row) (5, -2) (x, y)).2] ∧ Below V wA wc)
            case first =>
              as_aux_lemma =>
                cases hT : ((x == 0) && formB l at_ row)
                · have HS := hide (show stepF (formB l at_ row) (5, -2) (x, y) = (x, y) by unfold stepF; rw [if_neg]; simp only; rw [hT]; decide)
                  go_wp2_with fail
                  go_meet
                  case rel => exact ⟨by rw [HS.out]; exact hVY, hbY⟩
                · have HS := hide (show stepF (formB l at_ row) (5, -2) (x, y) = (5, -2) by unfold stepF; rw [if_pos]; simp only; exact hT)
                  go_wp2_with fail
                  refine (rF_any 5 (-2) _).mono ?_
                  rintro e w9 ⟨rfl, hb9⟩
                  have hV9 := hVY.later hb9
                  have hb9' : Below V wA w9 := hbY.trans (hb9.mono (by omega))
                  have u0 := hV9.cell 0
                  have u1 := hV9.cell 1
                  have ug0 := hV9.frozen 0
                  have ug1 := hV9.frozen 1
                  have ul := hV9.lt
                  simp at u0 u1
                  clear v0 v1 vg0 vg1
                  unfold flt
                  go_wp2_with fail
                  go_meet
                  case rel => exact ⟨by rw [HS.out]; exact (hV9.set 0 _).set 1 _, (hb9'.setCell (p := ⟨V, 0, none⟩) (Nat.le_refl _) _).setCell (p := ⟨V, 1, none⟩) (Nat.le_refl _) _⟩
            case rest =>
              obtain ⟨hVX, hbX⟩ := hcut
              obtain ⟨wX, hwX⟩ : ∃ z, z = wc := ⟨_, rfl⟩
              subst hwX
              clear hVY hbY v0 v1 vg0 vg1 vl
              have HQ2 : Hid (sp3 l at_ row = stepF (formB l at_ row) (5, -2) (x, y)) := hide (by unfold sp3; rw [HQ.out])
              clear HQ
              generalize stepF (formB l at_ row) (5, -2) (x, y) = S at *
              obtain ⟨x', y'⟩ := S
              have HQ := hide HQ2.out
              clear HQ2
              simp only at hVX
              obtain ⟨x, y, hxy⟩ : ∃ x y : Int, x = x' ∧ y = y' := ⟨_, _, rfl, rfl⟩
              obtain ⟨hxx, hyy⟩ := hxy
              subst hxx hyy
              go_upto_region 19 with fail
              obtain ⟨b0, b1, b2, b3, b4⟩ := (HK.out _ hbX).1
              have hrl := (HK.out _ hbX).2
              have v0 := hVX.cell 0
              have v1 := hVX.cell 1
              have vg0 := hVX.frozen 0
              have vg1 := hVX.frozen 1
              have vl := hVX.lt
              simp at v0 v1
              go_cut [113] (fun b wc => b = .bool ((x == 0) && (!numB left || !numB right)) ∧ Blk wc V 26 #[.int .i64 x, .int .i64 y] ∧ Below V wA wc)
              case first =>
                as_aux_lemma =>
                  cases hx0 : (x == 0)
                  · have hx1 : x ≠ 0 := by simpa using hx0
                    clear hx1
                    go_wp2_with fail
                    go_meet
                    case rel => exact ⟨by rw [hx0, Bool.false_and], hVX, hbX⟩
                  · have hx1 : x = 0 := by simpa using hx0
                    have HX1 := hide hx1
                    clear hx1
                    cases h1 : numB left
                    · go_wp2_with (go_at_call 13; refine (rNum_any _ _).mono ?_; rintro e w' ⟨rfl, rfl⟩; rw [h1])
                      go_meet
                      case rel => exact ⟨by rw [hx0, h1]; rfl, hVX, hbX⟩
                    · cases h2 : numB right
                      all_goals
                        go_wp2_with (first
                          | (go_at_call 13; refine (rNum_any left _).mono ?_; rintro e w' ⟨rfl, rfl⟩; rw [h1])
                          | (go_at_call 13; refine (rNum_any right _).mono ?_; rintro e w' ⟨rfl, rfl⟩; rw [h2]))
                        go_meet
                        case rel => exact ⟨by rw [hx0, h1, h2]; rfl, hVX, hbX⟩
              case rest =>
                obtain ⟨rfl, hVY, hbY⟩ := hcut
                obtain ⟨wY, hwY⟩ : ∃ z, z = wc := ⟨_, rfl⟩
                subst hwY
                clear hVX hbX b0 b1 b2 b3 b4 v0 v1 vg0 vg1 vl hrl
                have v0 := hVY.cell 0
                have v1 := hVY.cell 1
                have vg0 := hVY.frozen 0
                have vg1 := hVY.frozen 1
                have vl := hVY.lt
                simp at v0 v1
                go_upto_if 113 with fail
                go_cut [] (fun wc => Blk wc V 26 #[.int .i64 (stepF ((!numB left || !numB right)) (3, -3) (x, y)).1, .int .i64 (stepF ((!numB left || !numB right)) (3, -3) (x, y)).2] ∧ Below V wA wc)
                case first =>
                  as_aux_lemma =>
                    cases hT : ((x == 0) && (!numB left || !numB right))
                    · have HS := hide (show stepF ((!numB left || !numB right)) (3, -3) (x, y) = (x, y) by unfold stepF; rw [if_neg]; simp only; rw [hT]; decide)
                      go_wp2_with fail
                      go_meet
                      case rel => exact ⟨by rw [HS.out]; exact hVY, hbY⟩
                    · have HS := hide (show stepF ((!numB left || !numB right)) (3, -3) (x, y) = (3, -3) by unfold stepF; rw [if_pos]; simp only; exact hT)
                      go_wp2_with fail
                      refine (rF_any 3 (-3) _).mono ?_
                      rintro e w9 ⟨rfl, hb9⟩
                      have hV9 := hVY.later hb9
                      have hb9' : Below V wA w9 := hbY.trans (hb9.mono (by omega))
                      have u0 := hV9.cell 0
                      have u1 := hV9.cell 1
                      have ug0 := hV9.frozen 0
                      have ug1 := hV9.frozen 1
                      have ul := hV9.lt
                      simp at u0 u1
                      clear v0 v1 vg0 vg1
                      unfold flt
                      go_wp2_with fail
                      go_meet
                      case rel => exact ⟨by rw [HS.out]; exact (hV9.set 0 _).set 1 _, (hb9'.setCell (p := ⟨V, 0, none⟩) (Nat.le_refl _) _).setCell (p := ⟨V, 1, none⟩) (Nat.le_refl _) _⟩
                case rest =>
                  obtain ⟨hVX, hbX⟩ := hcut
                  obtain ⟨wX, hwX⟩ : ∃ z, z = wc := ⟨_, rfl⟩
                  subst hwX
                  clear hVY hbY v0 v1 vg0 vg1 vl
                  have HQ2 : Hid (sp4 l at_ row left right = stepF ((!numB left || !numB right)) (3, -3) (x, y)) := hide (by unfold sp4; rw [HQ.out])
                  clear HQ
                  generalize stepF ((!numB left || !numB right)) (3, -3) (x, y) = S at *
                  obtain ⟨x', y'⟩ := S
                  have HQ := hide HQ2.out
                  clear HQ2
                  simp only at hVX
                  obtain ⟨x, y, hxy⟩ : ∃ x y : Int, x = x' ∧ y = y' := ⟨_, _, rfl, rfl⟩
                  obtain ⟨hxx, hyy⟩ := hxy
                  subst hxx hyy
                  go_upto_region 21 with fail
                  obtain ⟨b0, b1, b2, b3, b4⟩ := (HK.out _ hbX).1
                  have hrl := (HK.out _ hbX).2
                  have v0 := hVX.cell 0
                  have v1 := hVX.cell 1
                  have vg0 := hVX.frozen 0
                  have vg1 := hVX.frozen 1
                  have vl := hVX.lt
                  simp at v0 v1
                  go_cut [134] (fun b wc => b = .bool ((x == 0) && twiceB l at_ left right) ∧ Blk wc V 26 #[.int .i64 x, .int .i64 y] ∧ Below V wA wc)
                  case first =>
                    as_aux_lemma =>
                      cases hx0 : (x == 0)
                      · have hx1 : x ≠ 0 := by simpa using hx0
                        clear hx1
                        go_wp2_with fail
                        go_meet
                        case rel => exact ⟨by rw [hx0, Bool.false_and], hVX, hbX⟩
                      · have hx1 : x = 0 := by simpa using hx0
                        have HX1 := hide hx1
                        clear hx1
                        have hz1 : (sp4 l at_ row left right).1 = 0 := by rw [HQ.out]; exact HX1.out
                        obtain ⟨hz0, hp0, hp1⟩ := sp1_zero (sp4_zero hz1)
                        obtain ⟨k, hk⟩ : ∃ k : Nat, at_ = k := ⟨at_.toNat, by omega⟩
                        have hkl : k < l.length := by omega
                        rw [hk] at b1
                        have HK2 : Hid (at_.toNat = k) := hide (by rw [hk, Int.toNat_natCast])
                        clear hz0 hz1 hk hp0 hp1
                        have HL := hide (HasID_any _ l k 1 left wX hrl (by omega))
                        have HR := hide (HasID_any _ l k 1 right wX hrl (by omega))
                        have HT : Hid (twiceB l at_ left right = (((left == right) || hasID l k 1 left) || hasID l k 1 right)) := hide (by
                          unfold twiceB
                          rw [HK2.out]
                          congr 2)
                        cases h0 : (left == right)
                        · cases h1 : hasID l k 1 left
                          · cases h2 : hasID l k 1 right
                            all_goals
                              rw [h1] at HL
                              rw [h2] at HR
                              go_wp2_with fail
                              refine HL.out.mono ?_
                              rintro e w' ⟨rfl, rfl⟩
                              go_wp2_with fail
                              refine HR.out.mono ?_
                              rintro e w' ⟨rfl, rfl⟩
                              go_wp2_with fail
                              go_meet
                              case rel => exact ⟨by rw [hx0, HT.out, h0, h1, h2]; rfl, hVX, hbX⟩
                          · rw [h1] at HL
                            go_wp2_with fail
                            refine HL.out.mono ?_
                            rintro e w' ⟨rfl, rfl⟩
                            go_wp2_with fail
                            go_meet
                            case rel => exact ⟨by rw [hx0, HT.out, h0, h1]; rfl, hVX, hbX⟩
                        · go_wp2_with fail
                          go_meet
                          case rel => exact ⟨by rw [hx0, HT.out, h0]; rfl, hVX, hbX⟩
                  case rest =>
                    obtain ⟨rfl, hVY, hbY⟩ := hcut
                    obtain ⟨wY, hwY⟩ : ∃ z, z = wc := ⟨_, rfl⟩
                    subst hwY
                    clear hVX hbX b0 b1 b2 b3 b4 v0 v1 vg0 vg1 vl hrl
                    have v0 := hVY.cell 0
                    have v1 := hVY.cell 1
                    have vg0 := hVY.frozen 0
                    have vg1 := hVY.frozen 1
                    have vl := hVY.lt
                    simp at v0 v1
                    go_upto_if 134 with fail
                    go_cut [] (fun wc => Blk wc V 26 #[.int .i64 (stepF (twiceB l at_ left right) (10, -3) (x, y)).1, .int .i64 (stepF (twiceB l at_ left right) (10, -3) (x, y)).2] ∧ Below V wA wc)
                    case first =>
                      as_aux_lemma =>
                        cases hT : ((x == 0) && twiceB l at_ left right)
                        · have HS := hide (show stepF (twiceB l at_ left right) (10, -3) (x, y) = (x, y) by unfold stepF; rw [if_neg]; simp only; rw [hT]; decide)
                          go_wp2_with fail
                          go_meet
                          case rel => exact ⟨by rw [HS.out]; exact hVY, hbY⟩
                        · have HS := hide (show stepF (twiceB l at_ left right) (10, -3) (x, y) = (10, -3) by unfold stepF; rw [if_pos]; simp only; exact hT)
                          go_wp2_with fail
                          refine (rF_any 10 (-3) _).mono ?_
                          rintro e w9 ⟨rfl, hb9⟩
                          have hV9 := hVY.later hb9
                          have hb9' : Below V wA w9 := hbY.trans (hb9.mono (by omega))
                          have u0 := hV9.cell 0
                          have u1 := hV9.cell 1
                          have ug0 := hV9.frozen 0
                          have ug1 := hV9.frozen 1
                          have ul := hV9.lt
                          simp at u0 u1
                          clear v0 v1 vg0 vg1
                          unfold flt
                          go_wp2_with fail
                          go_meet
                          case rel => exact ⟨by rw [HS.out]; exact (hV9.set 0 _).set 1 _, (hb9'.setCell (p := ⟨V, 0, none⟩) (Nat.le_refl _) _).setCell (p := ⟨V, 1, none⟩) (Nat.le_refl _) _⟩
                    case rest =>
                      obtain ⟨hVX, hbX⟩ := hcut
                      obtain ⟨wX, hwX⟩ : ∃ z, z = wc := ⟨_, rfl⟩
                      subst hwX
                      clear hVY hbY v0 v1 vg0 vg1 vl
                      have HQ2 : Hid (sp5 l at_ row left right = stepF (twiceB l at_ left right) (10, -3) (x, y)) := hide (by unfold sp5; rw [HQ.out])
                      clear HQ
                      generalize stepF (twiceB l at_ left right) (10, -3) (x, y) = S at *
                      obtain ⟨x', y'⟩ := S
                      have HQ := hide HQ2.out
                      clear HQ2
                      simp only at hVX
                      obtain ⟨x, y, hxy⟩ : ∃ x y : Int, x = x' ∧ y = y' := ⟨_, _, rfl, rfl⟩
                      obtain ⟨hxx, hyy⟩ := hxy
                      subst hxx hyy
                      go_upto_region 23 with fail
                      obtain ⟨b0, b1, b2, b3, b4⟩ := (HK.out _ hbX).1
                      have hrl := (HK.out _ hbX).2
                      have v0 := hVX.cell 0
                      have v1 := hVX.cell 1
                      have vg0 := hVX.frozen 0
                      have vg1 := hVX.frozen 1
                      have vl := hVX.lt
                      simp at v0 v1
                      go_cut [143] (fun b wc => b = .bool ((x == 0) && decide (l.length = 200)) ∧ Blk wc V 26 #[.int .i64 x, .int .i64 y] ∧ Below V wA wc)
                      case first =>
                        as_aux_lemma =>
                          cases hx0 : (x == 0)
                          · have hx1 : x ≠ 0 := by simpa using hx0
                            clear hx1
                            go_wp2_with fail
                            go_meet
                            case rel => exact ⟨by rw [hx0, Bool.false_and], hVX, hbX⟩
                          · have hx1 : x = 0 := by simpa using hx0
                            have HX1 := hide hx1
                            clear hx1
                            have hd : ((l.length : Int) == 200) = decide (l.length = 200) := by
                              by_cases h : l.length = 200
                              · rw [decide_eq_true h]; simp; omega
                              · rw [decide_eq_false h]; exact beq_eq_false_iff_ne.2 (by omega)
                            have HD := hide hd
                            clear hd
                            cases h9 : ((l.length : Int) == 200)
                            all_goals
                              have HD2 := hide (HD.out.symm.trans h9)
                              go_wp2_with fail
                              go_meet
                              case rel => exact ⟨by rw [hx0, HD2.out]; rfl, hVX, hbX⟩
                      case rest =>
                        obtain ⟨rfl, hVY, hbY⟩ := hcut
                        obtain ⟨wY, hwY⟩ : ∃ z, z = wc := ⟨_, rfl⟩
                        subst hwY
                        clear hVX hbX b0 b1 b2 b3 b4 v0 v1 vg0 vg1 vl hrl
                        have v0 := hVY.cell 0
                        have v1 := hVY.cell 1
                        have vg0 := hVY.frozen 0
                        have vg1 := hVY.frozen 1
                        have vl := hVY.lt
                        simp at v0 v1
                        go_upto_if 143 with fail
                        go_cut [] (fun wc => Blk wc V 26 #[.int .i64 (stepF (decide (l.length = 200)) (2, -1) (x, y)).1, .int .i64 (stepF (decide (l.length = 200)) (2, -1) (x, y)).2] ∧ Below V wA wc)
                        case first =>
                          as_aux_lemma =>
                            cases hT : ((x == 0) && decide (l.length = 200))
                            · have HS := hide (show stepF (decide (l.length = 200)) (2, -1) (x, y) = (x, y) by unfold stepF; rw [if_neg]; simp only; rw [hT]; decide)
                              go_wp2_with fail
                              go_meet
                              case rel => exact ⟨by rw [HS.out]; exact hVY, hbY⟩
                            · have HS := hide (show stepF (decide (l.length = 200)) (2, -1) (x, y) = (2, -1) by unfold stepF; rw [if_pos]; simp only; exact hT)
                              go_wp2_with fail
                              refine (rF_any 2 (-1) _).mono ?_
                              rintro e w9 ⟨rfl, hb9⟩
                              have hV9 := hVY.later hb9
                              have hb9' : Below V wA w9 := hbY.trans (hb9.mono (by omega))
                              have u0 := hV9.cell 0
                              have u1 := hV9.cell 1
                              have ug0 := hV9.frozen 0
                              have ug1 := hV9.frozen 1
                              have ul := hV9.lt
                              simp at u0 u1
                              clear v0 v1 vg0 vg1
                              unfold flt
                              go_wp2_with fail
                              go_meet
                              case rel => exact ⟨by rw [HS.out]; exact (hV9.set 0 _).set 1 _, (hb9'.setCell (p := ⟨V, 0, none⟩) (Nat.le_refl _) _).setCell (p := ⟨V, 1, none⟩) (Nat.le_refl _) _⟩
                        case rest =>
                          obtain ⟨hVX, hbX⟩ := hcut
                          obtain ⟨wX, hwX⟩ : ∃ z, z = wc := ⟨_, rfl⟩
                          subst hwX
                          clear hVY hbY v0 v1 vg0 vg1 vl
                          have HQ2 : Hid (sp6 l at_ row left right = stepF (decide (l.length = 200)) (2, -1) (x, y)) := hide (by unfold sp6; rw [HQ.out])
                          clear HQ
                          generalize stepF (decide (l.length = 200)) (2, -1) (x, y) = S at *
                          obtain ⟨x', y'⟩ := S
                          have HQ := hide HQ2.out
                          clear HQ2
                          simp only at hVX
                          obtain ⟨x, y, hxy⟩ : ∃ x y : Int, x = x' ∧ y = y' := ⟨_, _, rfl, rfl⟩
                          obtain ⟨hxx, hyy⟩ := hxy
                          subst hxx hyy
                          have HSX : Hid ((sx, sy) = (x, y)) := hide (by rw [← HSF.out, ← sp6_eq]; exact HQ.out)
                          have hxs : x = sx ∧ y = sy := by have := HSX.out; simp only [Prod.mk.injEq] at this; exact ⟨this.1.symm, this.2.symm⟩
                          obtain ⟨rfl, rfl⟩ := hxs
                          clear HSX HQ
                          go_upto_region 25 with fail
                          have hVlt : ∀ {N : Nat}, N < wA.heap.size → N < V := fun h => by rw [HVD.out]; exact h
                          have hbX2 : Below wA.heap.size wA wX := by rw [← HVD.out]; exact hbX
                          have hFX := HF7.out.below hbX (hVlt HF7.out.lt)
                          have p0 := hFX.cell 0
                          have p1 := hFX.cell 1
                          have pl := hFX.lt
                          have v0 := hVX.cell 0
                          have v1 := hVX.cell 1
                          have vl := hVX.lt
                          simp at p0 p1 v0 v1
                          go_cut [150] (fun b wc => b = .bool false ∧ Blk wc V 26 #[.int .i64 x, .int .i64 y] ∧ Below V wA wc)
                          case first =>
                            as_aux_lemma =>
                              have hsX := HS7.out.below hbX2
                              by_cases hx : x = 0
                              · have hz : (splitF l at_ row left right).1 = 0 := by rw [HSF.out]; exact hx
                                have hzz := splitF_zz hz
                                rw [HSF.out] at hzz
                                simp only [Prod.mk.injEq] at hzz
                                obtain ⟨rfl, rfl⟩ := hzz
                                obtain ⟨_, k, hk, hkl, _⟩ := splitF_ok hz
                                have hsr : splitR l at_ row left right = splitL l k row left right := by rw [splitR, if_pos hz, hk, Int.toNat_natCast]
                                have HCL : Hid (∀ W, Below wX.heap.size wX W → Calls Try.prog 16 #[.pointer (some ⟨w.heap.size, 0, none⟩), .pointer (some ⟨w.heap.size + 1, 0, none⟩), .pointer (some ⟨w.heap.size + 1 + 1, 0, none⟩), .pointer (some ⟨w.heap.size + 1 + 1 + 1, 0, none⟩), .pointer (some ⟨w.heap.size + 1 + 1 + 1 + 1, 0, none⟩)] W fun e w' => ∃ v', e = .returned v' ∧ RdG pE w' v' (splitR l at_ row left right) ∧ Below W.heap.size W w') := hide fun W hW => by
                                  rw [hsr]
                                  have hk9 := HK.out W (hbX.trans (hW.mono (Nat.le_of_lt hVX.lt)))
                                  rw [hk] at hk9
                                  exact does1_any _ _ l k row left right W hk9.1 hk9.2 hkl (by omega)
                                have HPA := hide (partsAs_one _ _ #[] wX hsX _ _ _ _ _ HCL.out)
                                clear HCL hsr hz hsX hk
                                go_wp2_with fail
                                refine HPA.out.mono ?_
                                rintro e w9 ⟨rfl, hb9⟩
                                go_wp2_with fail
                                go_meet
                                case rel => exact ⟨rfl, hVX.later hb9, hbX.trans (hb9.mono (Nat.le_of_lt hVX.lt))⟩
                              · have hsr : splitR l at_ row left right = [] := by rw [splitR, HSF.out, if_neg hx]
                                have hsX' : RdG pE wX (.slice so (splitR l at_ row left right).length sc4) [] := by rw [hsr] at hsX ⊢; exact hsX
                                have HPA := hide (partsAs_fault x y (.bool true) _ wX hsX' hx 16 #[.pointer (some ⟨w.heap.size, 0, none⟩), .pointer (some ⟨w.heap.size + 1, 0, none⟩), .pointer (some ⟨w.heap.size + 1 + 1, 0, none⟩), .pointer (some ⟨w.heap.size + 1 + 1 + 1, 0, none⟩), .pointer (some ⟨w.heap.size + 1 + 1 + 1 + 1, 0, none⟩)])
                                clear hsr hsX hsX' hx
                                go_wp2_with fail
                                refine HPA.out.mono ?_
                                rintro e w9 ⟨rfl, hb9⟩
                                go_wp2_with fail
                                go_meet
                                case rel => exact ⟨rfl, hVX.later hb9, hbX.trans (hb9.mono (Nat.le_of_lt hVX.lt))⟩
                          case rest =>
                          obtain ⟨rfl, hVY, hbY⟩ := hcut
                          obtain ⟨wY, hwY⟩ : ∃ z, z = wc := ⟨_, rfl⟩
                          subst hwY
                          clear hVX hbX p0 p1 pl v0 v1 vl hbX2 hFX
                          have hWY := HW7.out.below hbY (hVlt HW7.out.lt)
                          have p0 := hWY.cell 0
                          have p1 := hWY.cell 1
                          have pl := hWY.lt
                          have v0 := hVY.cell 0
                          have v1 := hVY.cell 1
                          have vg0 := hVY.frozen 0
                          have vg1 := hVY.frozen 1
                          have vl := hVY.lt
                          simp at p0 p1 v0 v1
                          have hVX : Blk ((wY.setCell ⟨V, 0, none⟩ (.int .i64 cx)).setCell ⟨V, 1, none⟩ (.int .i64 cy)) V 26 #[.int .i64 cx, .int .i64 cy] := (hVY.set 0 _).set 1 _
                          have hbX : Below V wA ((wY.setCell ⟨V, 0, none⟩ (.int .i64 cx)).setCell ⟨V, 1, none⟩ (.int .i64 cy)) := (hbY.setCell (p := ⟨V, 0, none⟩) (Nat.le_refl _) _).setCell (p := ⟨V, 1, none⟩) (Nat.le_refl _) _
                          have HVX := hide hVX
                          have HBX := hide hbX
                          clear hVX hbX
                          go_upto_region 28 with fail
                          have hVX := HVX.out
                          have hbX := HBX.out
                          generalize ((wY.setCell ⟨V, 0, none⟩ (.int .i64 cx)).setCell ⟨V, 1, none⟩ (.int .i64 cy)) = wX at *
                          have HQ := hide HC.out
                          clear HVX HBX v0 v1 vg0 vg1 vl p0 p1 pl hVY hbY hWY
                          obtain ⟨b0, b1, b2, b3, b4⟩ := (HK.out _ hbX).1
                          have hrl := (HK.out _ hbX).2
                          have v0 := hVX.cell 0
                          have v1 := hVX.cell 1
                          have vg0 := hVX.frozen 0
                          have vg1 := hVX.frozen 1
                          have vl := hVX.lt
                          simp at v0 v1
                          go_cut [165] (fun b wc => b = .bool ((cx == 0) && outB2 l at_) ∧ Blk wc V 26 #[.int .i64 cx, .int .i64 cy] ∧ Below V wA wc)
                          case first =>
                            as_aux_lemma =>
                              cases hx0 : (cx == 0)
                              · have hx1 : cx ≠ 0 := by simpa using hx0
                                clear hx1
                                go_wp2_with fail
                                go_meet
                                case rel => exact ⟨by rw [hx0, Bool.false_and], hVX, hbX⟩
                              · have hx1 : cx = 0 := by simpa using hx0
                                have HX1 := hide hx1
                                clear hx1
                                by_cases h1 : at_ < 0
                                · have hd : decide (at_ < 0) = true := decide_eq_true h1
                                  go_wp2_with fail
                                  go_meet
                                  case rel => exact ⟨by rw [hx0]; unfold outB2; rw [hd]; rfl, hVX, hbX⟩
                                · have hd : decide (at_ < 0) = false := decide_eq_false h1
                                  go_wp2_with fail
                                  go_meet
                                  case rel => exact ⟨by rw [hx0]; unfold outB2; rw [hd]; rfl, hVX, hbX⟩
                          case rest =>
                            obtain ⟨rfl, hVY, hbY⟩ := hcut
                            obtain ⟨wY, hwY⟩ : ∃ z, z = wc := ⟨_, rfl⟩
                            subst hwY
                            clear hVX hbX b0 b1 b2 b3 b4 v0 v1 vg0 vg1 vl hrl
                            have v0 := hVY.cell 0
                            have v1 := hVY.cell 1
                            have vg0 := hVY.frozen 0
                            have vg1 := hVY.frozen 1
                            have vl := hVY.lt
                            simp at v0 v1
                            go_upto_if 165 with fail
                            go_cut [] (fun wc => Blk wc V 26 #[.int .i64 (stepF (outB2 l at_) (3, -1) (cx, cy)).1, .int .i64 (stepF (outB2 l at_) (3, -1) (cx, cy)).2] ∧ Below V wA wc)
                            case first =>
                              as_aux_lemma =>
                                cases hT : ((cx == 0) && outB2 l at_)
                                · have HS := hide (show stepF (outB2 l at_) (3, -1) (cx, cy) = (cx, cy) by unfold stepF; rw [if_neg]; simp only; rw [hT]; decide)
                                  go_wp2_with fail
                                  go_meet
                                  case rel => exact ⟨by rw [HS.out]; exact hVY, hbY⟩
                                · have HS := hide (show stepF (outB2 l at_) (3, -1) (cx, cy) = (3, -1) by unfold stepF; rw [if_pos]; simp only; exact hT)
                                  go_wp2_with fail
                                  refine (rF_any 3 (-1) _).mono ?_
                                  rintro e w9 ⟨rfl, hb9⟩
                                  have hV9 := hVY.later hb9
                                  have hb9' : Below V wA w9 := hbY.trans (hb9.mono (by omega))
                                  have u0 := hV9.cell 0
                                  have u1 := hV9.cell 1
                                  have ug0 := hV9.frozen 0
                                  have ug1 := hV9.frozen 1
                                  have ul := hV9.lt
                                  simp at u0 u1
                                  clear v0 v1 vg0 vg1
                                  unfold flt
                                  go_wp2_with fail
                                  go_meet
                                  case rel => exact ⟨by rw [HS.out]; exact (hV9.set 0 _).set 1 _, (hb9'.setCell (p := ⟨V, 0, none⟩) (Nat.le_refl _) _).setCell (p := ⟨V, 1, none⟩) (Nat.le_refl _) _⟩
                            case rest =>
                              obtain ⟨hVX, hbX⟩ := hcut
                              obtain ⟨wX, hwX⟩ : ∃ z, z = wc := ⟨_, rfl⟩
                              subst hwX
                              clear hVY hbY v0 v1 vg0 vg1 vl
                              have HQ2 : Hid (jp1 l at_ = stepF (outB2 l at_) (3, -1) (cx, cy)) := hide (by unfold jp1; rw [HQ.out])
                              clear HQ
                              generalize stepF (outB2 l at_) (3, -1) (cx, cy) = S at *
                              obtain ⟨x', y'⟩ := S
                              have HQ := hide HQ2.out
                              clear HQ2
                              simp only at hVX
                              obtain ⟨x, y, hxy⟩ : ∃ x y : Int, x = x' ∧ y = y' := ⟨_, _, rfl, rfl⟩
                              obtain ⟨hxx, hyy⟩ := hxy
                              subst hxx hyy
                              go_upto_region 30 with fail
                              obtain ⟨b0, b1, b2, b3, b4⟩ := (HK.out _ hbX).1
                              have hrl := (HK.out _ hbX).2
                              have v0 := hVX.cell 0
                              have v1 := hVX.cell 1
                              have vg0 := hVX.frozen 0
                              have vg1 := hVX.frozen 1
                              have vl := hVX.lt
                              simp at v0 v1
                              go_cut [174] (fun b wc => b = .bool ((x == 0) && (!numB left)) ∧ Blk wc V 26 #[.int .i64 x, .int .i64 y] ∧ Below V wA wc)
                              case first =>
                                as_aux_lemma =>
                                  cases hx0 : (x == 0)
                                  · have hx1 : x ≠ 0 := by simpa using hx0
                                    clear hx1
                                    go_wp2_with fail
                                    go_meet
                                    case rel => exact ⟨by rw [hx0, Bool.false_and], hVX, hbX⟩
                                  · have hx1 : x = 0 := by simpa using hx0
                                    have HX1 := hide hx1
                                    clear hx1
                                    go_wp2_with (go_at_call 13; refine (rNum_any _ _).mono ?_; rintro e w' ⟨rfl, rfl⟩)
                                    go_meet
                                    case rel => exact ⟨by rw [hx0]; rfl, hVX, hbX⟩
                              case rest =>
                                obtain ⟨rfl, hVY, hbY⟩ := hcut
                                obtain ⟨wY, hwY⟩ : ∃ z, z = wc := ⟨_, rfl⟩
                                subst hwY
                                clear hVX hbX b0 b1 b2 b3 b4 v0 v1 vg0 vg1 vl hrl
                                have v0 := hVY.cell 0
                                have v1 := hVY.cell 1
                                have vg0 := hVY.frozen 0
                                have vg1 := hVY.frozen 1
                                have vl := hVY.lt
                                simp at v0 v1
                                go_upto_if 174 with fail
                                go_cut [] (fun wc => Blk wc V 26 #[.int .i64 (stepF ((!numB left)) (3, -3) (x, y)).1, .int .i64 (stepF ((!numB left)) (3, -3) (x, y)).2] ∧ Below V wA wc)
                                case first =>
                                  as_aux_lemma =>
                                    cases hT : ((x == 0) && (!numB left))
                                    · have HS := hide (show stepF ((!numB left)) (3, -3) (x, y) = (x, y) by unfold stepF; rw [if_neg]; simp only; rw [hT]; decide)
                                      go_wp2_with fail
                                      go_meet
                                      case rel => exact ⟨by rw [HS.out]; exact hVY, hbY⟩
                                    · have HS := hide (show stepF ((!numB left)) (3, -3) (x, y) = (3, -3) by unfold stepF; rw [if_pos]; simp only; exact hT)
                                      go_wp2_with fail
                                      refine (rF_any 3 (-3) _).mono ?_
                                      rintro e w9 ⟨rfl, hb9⟩
                                      have hV9 := hVY.later hb9
                                      have hb9' : Below V wA w9 := hbY.trans (hb9.mono (by omega))
                                      have u0 := hV9.cell 0
                                      have u1 := hV9.cell 1
                                      have ug0 := hV9.frozen 0
                                      have ug1 := hV9.frozen 1
                                      have ul := hV9.lt
                                      simp at u0 u1
                                      clear v0 v1 vg0 vg1
                                      unfold flt
                                      go_wp2_with fail
                                      go_meet
                                      case rel => exact ⟨by rw [HS.out]; exact (hV9.set 0 _).set 1 _, (hb9'.setCell (p := ⟨V, 0, none⟩) (Nat.le_refl _) _).setCell (p := ⟨V, 1, none⟩) (Nat.le_refl _) _⟩
                                case rest =>
                                  obtain ⟨hVX, hbX⟩ := hcut
                                  obtain ⟨wX, hwX⟩ : ∃ z, z = wc := ⟨_, rfl⟩
                                  subst hwX
                                  clear hVY hbY v0 v1 vg0 vg1 vl
                                  have HQ2 : Hid (jp2 l at_ left = stepF ((!numB left)) (3, -3) (x, y)) := hide (by unfold jp2; rw [HQ.out])
                                  clear HQ
                                  generalize stepF ((!numB left)) (3, -3) (x, y) = S at *
                                  obtain ⟨x', y'⟩ := S
                                  have HQ := hide HQ2.out
                                  clear HQ2
                                  simp only at hVX
                                  obtain ⟨x, y, hxy⟩ : ∃ x y : Int, x = x' ∧ y = y' := ⟨_, _, rfl, rfl⟩
                                  obtain ⟨hxx, hyy⟩ := hxy
                                  subst hxx hyy
                                  go_upto_region 32 with fail
                                  obtain ⟨b0, b1, b2, b3, b4⟩ := (HK.out _ hbX).1
                                  have hrl := (HK.out _ hbX).2
                                  have v0 := hVX.cell 0
                                  have v1 := hVX.cell 1
                                  have vg0 := hVX.frozen 0
                                  have vg1 := hVX.frozen 1
                                  have vl := hVX.lt
                                  simp at v0 v1
                                  go_cut [184] (fun b wc => b = .bool ((x == 0) && hasID l at_.toNat 2 left) ∧ Blk wc V 26 #[.int .i64 x, .int .i64 y] ∧ Below V wA wc)
                                  case first =>
                                    as_aux_lemma =>
                                      cases hx0 : (x == 0)
                                      · have hx1 : x ≠ 0 := by simpa using hx0
                                        clear hx1
                                        go_wp2_with fail
                                        go_meet
                                        case rel => exact ⟨by rw [hx0, Bool.false_and], hVX, hbX⟩
                                      · have hx1 : x = 0 := by simpa using hx0
                                        have HX1 := hide hx1
                                        clear hx1
                                        have hz1 : (jp2 l at_ left).1 = 0 := by rw [HQ.out]; exact HX1.out
                                        obtain ⟨hz0, hp0, hp1⟩ := jp1_zero (jp2_zero hz1)
                                        obtain ⟨k, hk⟩ : ∃ k : Nat, at_ = k := ⟨at_.toNat, by omega⟩
                                        have hkl : k < l.length := by omega
                                        rw [hk] at b1
                                        have HK2 : Hid (at_.toNat = k) := hide (by rw [hk, Int.toNat_natCast])
                                        clear hz0 hz1 hk hp0 hp1
                                        have HL := hide (HasID_any _ l k 2 left wX hrl (by omega))
                                        go_wp2_with fail
                                        refine HL.out.mono ?_
                                        rintro e w' ⟨rfl, rfl⟩
                                        go_wp2_with fail
                                        go_meet
                                        case rel => exact ⟨by rw [hx0, HK2.out]; rfl, hVX, hbX⟩
                                  case rest =>
                                    obtain ⟨rfl, hVY, hbY⟩ := hcut
                                    obtain ⟨wY, hwY⟩ : ∃ z, z = wc := ⟨_, rfl⟩
                                    subst hwY
                                    clear hVX hbX b0 b1 b2 b3 b4 v0 v1 vg0 vg1 vl hrl
                                    have v0 := hVY.cell 0
                                    have v1 := hVY.cell 1
                                    have vg0 := hVY.frozen 0
                                    have vg1 := hVY.frozen 1
                                    have vl := hVY.lt
                                    simp at v0 v1
                                    go_upto_if 184 with fail
                                    go_cut [] (fun wc => Blk wc V 26 #[.int .i64 (stepF (hasID l at_.toNat 2 left) (10, -3) (x, y)).1, .int .i64 (stepF (hasID l at_.toNat 2 left) (10, -3) (x, y)).2] ∧ Below V wA wc)
                                    case first =>
                                      as_aux_lemma =>
                                        cases hT : ((x == 0) && hasID l at_.toNat 2 left)
                                        · have HS := hide (show stepF (hasID l at_.toNat 2 left) (10, -3) (x, y) = (x, y) by unfold stepF; rw [if_neg]; simp only; rw [hT]; decide)
                                          go_wp2_with fail
                                          go_meet
                                          case rel => exact ⟨by rw [HS.out]; exact hVY, hbY⟩
                                        · have HS := hide (show stepF (hasID l at_.toNat 2 left) (10, -3) (x, y) = (10, -3) by unfold stepF; rw [if_pos]; simp only; exact hT)
                                          go_wp2_with fail
                                          refine (rF_any 10 (-3) _).mono ?_
                                          rintro e w9 ⟨rfl, hb9⟩
                                          have hV9 := hVY.later hb9
                                          have hb9' : Below V wA w9 := hbY.trans (hb9.mono (by omega))
                                          have u0 := hV9.cell 0
                                          have u1 := hV9.cell 1
                                          have ug0 := hV9.frozen 0
                                          have ug1 := hV9.frozen 1
                                          have ul := hV9.lt
                                          simp at u0 u1
                                          clear v0 v1 vg0 vg1
                                          unfold flt
                                          go_wp2_with fail
                                          go_meet
                                          case rel => exact ⟨by rw [HS.out]; exact (hV9.set 0 _).set 1 _, (hb9'.setCell (p := ⟨V, 0, none⟩) (Nat.le_refl _) _).setCell (p := ⟨V, 1, none⟩) (Nat.le_refl _) _⟩
                                    case rest =>
                                      obtain ⟨hVX, hbX⟩ := hcut
                                      obtain ⟨wX, hwX⟩ : ∃ z, z = wc := ⟨_, rfl⟩
                                      subst hwX
                                      clear hVY hbY v0 v1 vg0 vg1 vl
                                      have HQ2 : Hid (jp3 l at_ left = stepF (hasID l at_.toNat 2 left) (10, -3) (x, y)) := hide (by unfold jp3; rw [HQ.out])
                                      clear HQ
                                      generalize stepF (hasID l at_.toNat 2 left) (10, -3) (x, y) = S at *
                                      obtain ⟨x', y'⟩ := S
                                      have HQ := hide HQ2.out
                                      clear HQ2
                                      simp only at hVX
                                      obtain ⟨x, y, hxy⟩ : ∃ x y : Int, x = x' ∧ y = y' := ⟨_, _, rfl, rfl⟩
                                      obtain ⟨hxx, hyy⟩ := hxy
                                      subst hxx hyy
                                      have HSX : Hid ((jx, jy) = (x, y)) := hide (by rw [← HJF.out, ← jp3_eq]; exact HQ.out)
                                      have hxs : x = jx ∧ y = jy := by have := HSX.out; simp only [Prod.mk.injEq] at this; exact ⟨this.1.symm, this.2.symm⟩
                                      obtain ⟨rfl, rfl⟩ := hxs
                                      clear HSX HQ
                                      go_upto_region 34 with fail
                                      have hbX2 : Below wA.heap.size wA wX := by rw [← HVD.out]; exact hbX
                                      have hFX := HG7.out.below hbX (hVlt HG7.out.lt)
                                      have hbWX : Below w.heap.size w wX := HBW.out.trans (hbX2.mono HBW.out.size)
                                      have p0 := hFX.cell 0
                                      have p1 := hFX.cell 1
                                      have pl := hFX.lt
                                      have v0 := hVX.cell 0
                                      have v1 := hVX.cell 1
                                      have vl := hVX.lt
                                      simp at p0 p1 v0 v1
                                      have hsX := HJ7.out.below hbX2
                                      by_cases hx : x = 0
                                      · have hz : (joinF l at_ left).1 = 0 := by rw [HJF.out]; exact hx
                                        have hzz := joinF_zz hz
                                        rw [HJF.out] at hzz
                                        simp only [Prod.mk.injEq] at hzz
                                        obtain ⟨rfl, rfl⟩ := hzz
                                        obtain ⟨_, k, hk, hkl, _⟩ := joinF_ok hz
                                        have hsr : joinR l at_ left = joinL l k left := by rw [joinR, if_pos hz, hk, Int.toNat_natCast]
                                        have HCL : Hid (∀ W, Below wX.heap.size wX W → Calls Try.prog 18 #[.pointer (some ⟨w.heap.size, 0, none⟩), .pointer (some ⟨w.heap.size + 1, 0, none⟩), .pointer (some ⟨w.heap.size + 1 + 1 + 1, 0, none⟩)] W fun e w' => ∃ v', e = .returned v' ∧ RdG pE w' v' (joinR l at_ left) ∧ Below W.heap.size W w') := hide fun W hW => by
                                          rw [hsr]
                                          have hk9 := HK.out W (hbX.trans (hW.mono (Nat.le_of_lt hVX.lt)))
                                          rw [hk] at hk9
                                          exact does2_any _ _ l k row left right W hk9.1 hk9.2 hkl (by omega)
                                        have HPA := hide (partsAs_two _ _ #[] wX hsX _ _ _ HCL.out)
                                        clear HCL hsr hz hsX hk
                                        go_wp2_with fail
                                        refine HPA.out.mono ?_
                                        rintro e w9 ⟨rfl, hb9⟩
                                        go_wp2_with fail
                                        go_ret
                                        exact ⟨rfl, hbWX.trans (hb9.mono hbWX.size)⟩
                                      · have hsr : joinR l at_ left = [] := by rw [joinR, HJF.out, if_neg hx]
                                        have hsX' : RdG pE wX (.slice jo (joinR l at_ left).length jc5) [] := by rw [hsr] at hsX ⊢; exact hsX
                                        have HPA := hide (partsAs_fault x y (.bool true) _ wX hsX' hx 18 #[.pointer (some ⟨w.heap.size, 0, none⟩), .pointer (some ⟨w.heap.size + 1, 0, none⟩), .pointer (some ⟨w.heap.size + 1 + 1 + 1, 0, none⟩)])
                                        clear hsr hsX hsX' hx
                                        go_wp2_with fail
                                        refine HPA.out.mono ?_
                                        rintro e w9 ⟨rfl, hb9⟩
                                        go_wp2_with fail
                                        go_ret
                                        exact ⟨rfl, hbWX.trans (hb9.mono hbWX.size)⟩

end Go.Proofs.Ytahgddbladfemae
