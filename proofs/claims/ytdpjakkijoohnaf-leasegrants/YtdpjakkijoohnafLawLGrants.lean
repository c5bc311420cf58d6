/-
  The walk over the law LeaseGrants. (Written by lawlg.py.)
-/
import Derived.Test.YtdpjakkijoohnafLeaseR2
import Derived.Test.YtdpjakkijoohnafLeaseR3b
import Derived.Test.YtdpjakkijoohnafLeaseW4b
import Derived.Test.YtdpjakkijoohnafLawLFence
namespace Go.Proofs.Ytdpjakkijoohnaf
open Go.RowKit
set_option linter.unusedVariables false

def lbadB (a b c : Int) : Bool := !numL a || !numL b || !numL c

theorem Blk.cast2 {W : World} {V : Nat} {t : TypeId} {a b c d : Int} (h : (a, b) = (c, d)) (hb : Blk W V t #[.int .i64 c, .int .i64 d]) : Blk W V t #[.int .i64 a, .int .i64 b] := by
  simp only [Prod.mk.injEq] at h
  rw [h.1, h.2]
  exact hb

theorem lchkF_if (a b c : Int) : lchkF ⟨a, b, c⟩ = cond (lbadB a b c) (3, 0) (0, 0) := by
  unfold lchkF lbadB
  cases numL a <;> cases numL b <;> cases numL c <;> rfl

set_option maxRecDepth 100000 in
set_option maxHeartbeats 16000000 in
theorem leaseGrants_any (l : Ls) (who epoch now span : Int) (w : World) :
    Calls Try.prog 5 #[lsV l, .int .i64 who, .int .i64 epoch, .int .i64 now, .int .i64 span] w fun e w' => e = .returned (.bool true) ∧ Below w.heap.size w w' := by
  have hck := fun W => lCheck_any l W
  have hgr := fun W => Grant_any l who now span W
  have hrn := fun W => Renew_any l who epoch now span W
  have htr := fun W => Trust_any now span W
  have had := fun W => Admit_any l.ep epoch W
  have hrg := fun W => rGranted_any l who now span W
  have hrr := fun W => rRenewed_any l who epoch now span W
  obtain ⟨hold, ep, til⟩ := l
  simp only at had
  generalize hC : lchkF ⟨hold, ep, til⟩ = C at *
  generalize hGF : grantF ⟨hold, ep, til⟩ who now span = GF at *
  generalize hGL : grantL ⟨hold, ep, til⟩ who now span = GL at *
  generalize hRF : renewF ⟨hold, ep, til⟩ who epoch now span = RF at *
  generalize hRL : renewL ⟨hold, ep, til⟩ who epoch now span = RL at *
  generalize hTF : trustF now span = TF at *
  generalize hTV : trustV now span = TV at *
  generalize hAF : admitF ep epoch = AF at *
  generalize hAV : admitV ep epoch = AV at *
  obtain ⟨cx, cy⟩ := C
  obtain ⟨gx, gy⟩ := GF
  obtain ⟨ga, gb, gc⟩ := GL
  obtain ⟨rx, ry⟩ := RF
  obtain ⟨ra, rb, rc⟩ := RL
  obtain ⟨tx, ty⟩ := TF
  obtain ⟨ax, ay⟩ := AF
  unfold lsV flt at hck hgr hrn hrg hrr
  unfold flt at htr had
  simp only at hck hgr hrn hrg hrr htr had
  have HCK := hide hck
  have HGR := hide hgr
  have HRN := hide hrn
  have HTR := hide htr
  have HAD := hide had
  have HRG := hide hrg
  have HRR := hide hrr
  have HC := hide ((lchkF_if hold ep til).symm.trans hC)
  have HTF := hide hTF
  have HTV := hide hTV
  have HAF := hide hAF
  have HAV := hide hAV
  clear hck hgr hrn htr had hrg hrr hC hGF hGL hRF hRL hTF hTV hAF hAV
  unfold lsV
  simp only
  have KL0 := hide (Blk.new w 47 #[.int .i64 hold, .int .i64 ep, .int .i64 til])
  go_enter Try.func5, Try.ntmps5
  go_wp2_with fail
  refine (leaseBegun_any _).mono ?_
  rintro e w1 ⟨rfl, hb1⟩
  have hbw1 := (below_allocG w (.cells #[.int .i64 hold, .int .i64 ep, .int .i64 til] 47)).trans (hb1.mono (by simp))
  have KL1 := hide (KL0.out.later hb1)
  clear KL0
  clear hb1
  have eL := KL1.out
  have Lc0 := eL.cell 0
  have Lc1 := eL.cell 1
  have Lc2 := eL.cell 2
  have Lz0 := eL.frozen 0
  have Lz1 := eL.frozen 1
  have Lz2 := eL.frozen 2
  have Ll := eL.lt
  simp at Lc0 Lc1 Lc2
  clear eL
  go_wp2_with fail
  refine (HCK.out _).mono ?_
  rintro e w2 ⟨rfl, hb2⟩
  clear Lc0 Lz0 Lc1 Lz1 Lc2 Lz2 Ll
  have hbw2 := hbw1.trans (hb2.mono hbw1.size)
  have KL2 := hide (KL1.out.later hb2)
  clear KL1
  clear hb2 hbw1
  have eL := KL2.out
  have Lc0 := eL.cell 0
  have Lc1 := eL.cell 1
  have Lc2 := eL.cell 2
  have Lz0 := eL.frozen 0
  have Lz1 := eL.frozen 1
  have Lz2 := eL.frozen 2
  have Ll := eL.lt
  simp at Lc0 Lc1 Lc2
  clear eL
  go_wp2_with fail
  refine (HGR.out _).mono ?_
  rintro e w3 ⟨rfl, hb3⟩
  clear Lc0 Lz0 Lc1 Lz1 Lc2 Lz2 Ll
  have hq3 := (below_allocG w2 (.cells #[.int .i64 cx, .int .i64 cy] 26)).trans (hb3.mono (by simp))
  have hbw3 := hbw2.trans (hq3.mono hbw2.size)
  have KL3 := hide (KL2.out.later hq3)
  clear KL2
  have KC3 := hide ((Blk.new w2 26 #[.int .i64 cx, .int .i64 cy]).later hb3)
  clear hb3 hbw2 hq3
  have eL := KL3.out
  have Lc0 := eL.cell 0
  have Lc1 := eL.cell 1
  have Lc2 := eL.cell 2
  have Lz0 := eL.frozen 0
  have Lz1 := eL.frozen 1
  have Lz2 := eL.frozen 2
  have Ll := eL.lt
  simp at Lc0 Lc1 Lc2
  clear eL
  go_wp2_with fail
  refine (HRN.out _).mono ?_
  rintro e w4 ⟨rfl, hb4⟩
  clear Lc0 Lz0 Lc1 Lz1 Lc2 Lz2 Ll
  have hq4 := (below_alloc2 w3 (.cells #[.int .i64 ga, .int .i64 gb, .int .i64 gc] 47) (.cells #[.int .i64 gx, .int .i64 gy] 26)).trans (hb4.mono (by simp; omega))
  have hbw4 := hbw3.trans (hq4.mono hbw3.size)
  have KL4 := hide (KL3.out.later hq4)
  have KC4 := hide (KC3.out.later hq4)
  clear KL3 KC3
  have KA4 := hide ((Blk.at0of2 w3 (.cells #[.int .i64 gx, .int .i64 gy] 26) 47 #[.int .i64 ga, .int .i64 gb, .int .i64 gc]).later hb4)
  have KG4 := hide ((Blk.at1 w3 (.cells #[.int .i64 ga, .int .i64 gb, .int .i64 gc] 47) 26 #[.int .i64 gx, .int .i64 gy]).later hb4)
  clear hb4 hbw3 hq4
  have eL := KL4.out
  have Lc0 := eL.cell 0
  have Lc1 := eL.cell 1
  have Lc2 := eL.cell 2
  have Lz0 := eL.frozen 0
  have Lz1 := eL.frozen 1
  have Lz2 := eL.frozen 2
  have Ll := eL.lt
  simp at Lc0 Lc1 Lc2
  clear eL
  go_wp2_with fail
  refine (HTR.out _).mono ?_
  rintro e w5 ⟨rfl, hb5⟩
  clear Lc0 Lz0 Lc1 Lz1 Lc2 Lz2 Ll
  have hq5 := (below_alloc2 w4 (.cells #[.int .i64 ra, .int .i64 rb, .int .i64 rc] 47) (.cells #[.int .i64 rx, .int .i64 ry] 26)).trans (hb5.mono (by simp; omega))
  have hbw5 := hbw4.trans (hq5.mono hbw4.size)
  have KL5 := hide (KL4.out.later hq5)
  have KC5 := hide (KC4.out.later hq5)
  have KA5 := hide (KA4.out.later hq5)
  have KG5 := hide (KG4.out.later hq5)
  clear KL4 KC4 KA4 KG4
  have KD5 := hide ((Blk.at0of2 w4 (.cells #[.int .i64 rx, .int .i64 ry] 26) 47 #[.int .i64 ra, .int .i64 rb, .int .i64 rc]).later hb5)
  have KR5 := hide ((Blk.at1 w4 (.cells #[.int .i64 ra, .int .i64 rb, .int .i64 rc] 47) 26 #[.int .i64 rx, .int .i64 ry]).later hb5)
  clear hb5 hbw4 hq5
  have eL := KL5.out
  have Lc0 := eL.cell 0
  have Lc1 := eL.cell 1
  have Lc2 := eL.cell 2
  have Lz0 := eL.frozen 0
  have Lz1 := eL.frozen 1
  have Lz2 := eL.frozen 2
  have Ll := eL.lt
  simp at Lc0 Lc1 Lc2
  clear eL
  go_wp2_with fail
  refine (HAD.out _).mono ?_
  rintro e w6 ⟨rfl, hb6⟩
  clear Lc0 Lz0 Lc1 Lz1 Lc2 Lz2 Ll
  have hq6 := (below_allocG w5 (.cells #[.int .i64 tx, .int .i64 ty] 26)).trans (hb6.mono (by simp))
  have hbw6 := hbw5.trans (hq6.mono hbw5.size)
  have KL6 := hide (KL5.out.later hq6)
  have KC6 := hide (KC5.out.later hq6)
  have KA6 := hide (KA5.out.later hq6)
  have KG6 := hide (KG5.out.later hq6)
  have KD6 := hide (KD5.out.later hq6)
  have KR6 := hide (KR5.out.later hq6)
  clear KL5 KC5 KA5 KG5 KD5 KR5
  have KT6 := hide ((Blk.new w5 26 #[.int .i64 tx, .int .i64 ty]).later hb6)
  clear hb6 hbw5 hq6
  have eL := KL6.out
  have Lc0 := eL.cell 0
  have Lc1 := eL.cell 1
  have Lc2 := eL.cell 2
  have Lz0 := eL.frozen 0
  have Lz1 := eL.frozen 1
  have Lz2 := eL.frozen 2
  have Ll := eL.lt
  simp at Lc0 Lc1 Lc2
  clear eL
  go_upto_region 9 with fail
  clear Lc0 Lz0 Lc1 Lz1 Lc2 Lz2 Ll
  have ltL := KL6.out.lt
  have ltC := KC6.out.lt
  have ltA := KA6.out.lt
  have ltG := KG6.out.lt
  have ltD := KD6.out.lt
  have ltR := KR6.out.lt
  have ltT := KT6.out.lt
  have hbA := below_alloc2 w6 (.cells #[.int .i64 ax, .int .i64 ay] 26) (.cells #[.int .i64 0, .int .i64 0] 26)
  have KL7 := hide (KL6.out.later hbA)
  have KC7 := hide (KC6.out.later hbA)
  have KA7 := hide (KA6.out.later hbA)
  have KG7 := hide (KG6.out.later hbA)
  have KD7 := hide (KD6.out.later hbA)
  have KR7 := hide (KR6.out.later hbA)
  have KT7 := hide (KT6.out.later hbA)
  clear KL6 KC6 KA6 KG6 KD6 KR6 KT6
  have KE7 := hide (Blk.at0of2 w6 (.cells #[.int .i64 0, .int .i64 0] 26) 26 #[.int .i64 ax, .int .i64 ay])
  have hVX := Blk.at1 w6 (.cells #[.int .i64 ax, .int .i64 ay] 26) 26 #[.int .i64 0, .int .i64 0]
  have hbw7 := hbw6.trans (hbA.mono hbw6.size)
  clear hbA hbw6
  generalize hwA : (w6.alloc (.cells #[.int .i64 ax, .int .i64 ay] 26)).alloc (.cells #[.int .i64 0, .int .i64 0] 26) = wA at *
  generalize hV : w6.heap.size + 1 = V at *
  generalize hE : w6.heap.size = E at *
  have ltE : E < V := by omega
  have HK : Hid (∀ W, Below V wA W → Blk W (w.heap.size) 47 #[.int .i64 hold, .int .i64 ep, .int .i64 til] ∧ Blk W (w2.heap.size) 26 #[.int .i64 cx, .int .i64 cy] ∧ Blk W (w3.heap.size) 47 #[.int .i64 ga, .int .i64 gb, .int .i64 gc] ∧ Blk W (w3.heap.size + 1) 26 #[.int .i64 gx, .int .i64 gy] ∧ Blk W (w4.heap.size) 47 #[.int .i64 ra, .int .i64 rb, .int .i64 rc] ∧ Blk W (w4.heap.size + 1) 26 #[.int .i64 rx, .int .i64 ry] ∧ Blk W (w5.heap.size) 26 #[.int .i64 tx, .int .i64 ty] ∧ Blk W (E) 26 #[.int .i64 ax, .int .i64 ay]) := hide fun W hW => ⟨KL7.out.below hW (by omega), KC7.out.below hW (by omega), KA7.out.below hW (by omega), KG7.out.below hW (by omega), KD7.out.below hW (by omega), KR7.out.below hW (by omega), KT7.out.below hW (by omega), KE7.out.below hW (by omega)⟩
  have hwV : w.heap.size ≤ V := by omega
  have HWV := hide hwV
  have HB7 := hide hbw7
  clear hwA hE hV hwV hbw7 KL7 KC7 KA7 KG7 KD7 KR7 KT7 KE7 ltL ltC ltA ltG ltD ltR ltT ltE
  have hbX : Below V wA wA := Below.refl _ _
  obtain ⟨bL, -, -, -, -, -, -, -⟩ := HK.out _ hbX
  have Lc0 := bL.cell 0
  have Lc1 := bL.cell 1
  have Lc2 := bL.cell 2
  have Lz0 := bL.frozen 0
  have Lz1 := bL.frozen 1
  have Lz2 := bL.frozen 2
  have Ll := bL.lt
  simp at Lc0 Lc1 Lc2
  clear bL Lz0 Lz1 Lz2
  go_cut [75] (fun b wc => b = .bool (lbadB hold ep til) ∧ wA = wc)
  case first =>
    as_aux_lemma =>
      have HBB : Hid (lbadB hold ep til = (!numL hold || !numL ep || !numL til)) := hide rfl
      cases n1 : numL hold <;> cases n2 : numL ep <;> cases n3 : numL til
      all_goals
        rw [n1, n2, n3] at HBB
        go_wp2_with (go_at_call 25; refine (lNum_any _ _).mono ?_; rintro e w' ⟨rfl, rfl⟩; first | rw [n1] | rw [n2] | rw [n3])
        go_meet
        case rel => exact ⟨by rw [HBB.out]; rfl, rfl⟩
  case rest =>
    obtain ⟨rfl, rfl⟩ := hcut
    clear Lc0 Lc1 Lc2 Ll
    have vc0 := hVX.cell 0
    have vc1 := hVX.cell 1
    have vz0 := hVX.frozen 0
    have vz1 := hVX.frozen 1
    have vl := hVX.lt
    simp at vc0 vc1
    go_upto_if 75 with fail
    go_cut [] (fun wc => Blk wc V 26 #[.int .i64 cx, .int .i64 cy] ∧ Below V wA wc)
    case first =>
      as_aux_lemma =>
        cases hq : lbadB hold ep til
        · have HS : Hid ((cx, cy) = (0, 0)) := hide (by rw [← HC.out, hq]; rfl)
          go_wp2_with fail
          go_meet
          case rel => exact ⟨Blk.cast2 HS.out hVX, hbX⟩
        · have HS : Hid ((cx, cy) = (3, 0)) := hide (by rw [← HC.out, hq]; rfl)
          go_wp2_with fail
          refine (lF_any 3 0 _).mono ?_
          rintro e w9 ⟨rfl, hb9⟩
          have hV9 := hVX.later hb9
          have hb9' := hbX.trans (hb9.mono (Nat.le_of_lt hVX.lt))
          clear vc0 vc1 vz0 vz1 vl
          have uc0 := hV9.cell 0
          have uc1 := hV9.cell 1
          have uz0 := hV9.frozen 0
          have uz1 := hV9.frozen 1
          have ul := hV9.lt
          simp at uc0 uc1
          unfold flt
          go_wp2_with fail
          go_meet
          case rel => exact ⟨Blk.cast2 HS.out ((hV9.set 0 _).set 1 _), (hb9'.setCell (p := ⟨V, 0, none⟩) (Nat.le_refl _) _).setCell (p := ⟨V, 1, none⟩) (Nat.le_refl _) _⟩
    case rest =>
      obtain ⟨hVY, hbY⟩ := hcut
      obtain ⟨wY, hwY⟩ : ∃ z, z = wc := ⟨_, rfl⟩
      subst hwY
      clear hVX hbX
      clear vc0 vc1 vz0 vz1 vl
      obtain ⟨bL, -, -, -, -, -, -, -⟩ := HK.out _ hbY
      have Lc0 := bL.cell 0
      have Lc1 := bL.cell 1
      have Lc2 := bL.cell 2
      have Lz0 := bL.frozen 0
      have Lz1 := bL.frozen 1
      have Lz2 := bL.frozen 2
      have Ll := bL.lt
      simp at Lc0 Lc1 Lc2
      clear bL Lz0 Lz1 Lz2
      go_wp2_with fail
      refine (HRG.out _).mono ?_
      rintro e w8 ⟨rfl, hb8⟩
      clear Lc0 Lc1 Lc2 Ll
      have hV8 := hVY.later hb8
      have hbZ := hbY.trans (hb8.mono (Nat.le_of_lt hVY.lt))
      clear hVY hbY hb8
      obtain ⟨bL, -, -, -, -, -, -, -⟩ := HK.out _ hbZ
      have Lc0 := bL.cell 0
      have Lc1 := bL.cell 1
      have Lc2 := bL.cell 2
      have Lz0 := bL.frozen 0
      have Lz1 := bL.frozen 1
      have Lz2 := bL.frozen 2
      have Ll := bL.lt
      simp at Lc0 Lc1 Lc2
      clear bL Lz0 Lz1 Lz2
      have HV8 := hide hV8
      clear hV8
      go_wp2_with fail
      refine (HRR.out _).mono ?_
      rintro e w9 ⟨rfl, hb9⟩
      clear Lc0 Lc1 Lc2 Ll
      have hX9 := (Blk.at0of2 w8 (.cells #[.int .i64 gx, .int .i64 gy] 26) 47 #[.int .i64 ga, .int .i64 gb, .int .i64 gc]).later hb9
      have hY9 := (Blk.at1 w8 (.cells #[.int .i64 ga, .int .i64 gb, .int .i64 gc] 47) 26 #[.int .i64 gx, .int .i64 gy]).later hb9
      have hq9 := (below_alloc2 w8 (.cells #[.int .i64 ga, .int .i64 gb, .int .i64 gc] 47) (.cells #[.int .i64 gx, .int .i64 gy] 26)).trans (hb9.mono (by simp; omega))
      have hV9 := HV8.out.later hq9
      have hbX := hbZ.trans (hq9.mono (Nat.le_of_lt HV8.out.lt))
      clear hb9 hbZ hq9 HV8
      obtain ⟨-, bC, bA, bG, bD, bR, -, -⟩ := HK.out _ hbX
      have Cc0 := bC.cell 0
      have Cc1 := bC.cell 1
      have Cz0 := bC.frozen 0
      have Cz1 := bC.frozen 1
      have Cl := bC.lt
      simp at Cc0 Cc1
      clear bC Cz0 Cz1
      have Ac0 := bA.cell 0
      have Ac1 := bA.cell 1
      have Ac2 := bA.cell 2
      have Az0 := bA.frozen 0
      have Az1 := bA.frozen 1
      have Az2 := bA.frozen 2
      have Al := bA.lt
      simp at Ac0 Ac1 Ac2
      clear bA Az0 Az1 Az2
      have Gc0 := bG.cell 0
      have Gc1 := bG.cell 1
      have Gz0 := bG.frozen 0
      have Gz1 := bG.frozen 1
      have Gl := bG.lt
      simp at Gc0 Gc1
      clear bG Gz0 Gz1
      have Dc0 := bD.cell 0
      have Dc1 := bD.cell 1
      have Dc2 := bD.cell 2
      have Dz0 := bD.frozen 0
      have Dz1 := bD.frozen 1
      have Dz2 := bD.frozen 2
      have Dl := bD.lt
      simp at Dc0 Dc1 Dc2
      clear bD Dz0 Dz1 Dz2
      have Rc0 := bR.cell 0
      have Rc1 := bR.cell 1
      have Rz0 := bR.frozen 0
      have Rz1 := bR.frozen 1
      have Rl := bR.lt
      simp at Rc0 Rc1
      clear bR Rz0 Rz1
      have xc0 := hX9.cell 0
      have xc1 := hX9.cell 1
      have xc2 := hX9.cell 2
      have xz0 := hX9.frozen 0
      have xz1 := hX9.frozen 1
      have xz2 := hX9.frozen 2
      have xl := hX9.lt
      simp at xc0 xc1 xc2
      have yc0 := hY9.cell 0
      have yc1 := hY9.cell 1
      have yz0 := hY9.frozen 0
      have yz1 := hY9.frozen 1
      have yl := hY9.lt
      simp at yc0 yc1
      clear xz0 xz1 xz2 yz0 yz1
      have vc0 := hV9.cell 0
      have vc1 := hV9.cell 1
      have vz0 := hV9.frozen 0
      have vz1 := hV9.frozen 1
      have vl := hV9.lt
      simp at vc0 vc1
      have HV9 := hide hV9
      have HX9 := hide hbX
      clear hV9 hbX hX9 hY9
      have hs9 := HV9.out.lt
      go_upto_if 120 with (go_at_call 25; refine (lNum_any _ _).mono ?_; rintro e w' ⟨rfl, rfl⟩)
      clear Cc0 Cc1 Cl Ac0 Ac1 Ac2 Al Gc0 Gc1 Gl Dc0 Dc1 Dc2 Dl Rc0 Rc1 Rl
      clear xc0 xc1 xc2 xl yc0 yc1 yl hs9
      clear vc0 vc1 vz0 vz1 vl
      have hVX0 := (HV9.out.set 0 (.int .i64 0)).set 1 (.int .i64 0)
      have hbX0 := (HX9.out.setCell (p := ⟨V, 0, none⟩) (Nat.le_refl _) (.int .i64 0)).setCell (p := ⟨V, 1, none⟩) (Nat.le_refl _) (.int .i64 0)
      simp only [List.setIfInBounds_toArray, List.set_cons_succ, List.set_cons_zero] at hVX0
      have hbA := below_alloc2 ((w9.setCell ⟨V, 0, none⟩ (.int .i64 0)).setCell ⟨V, 1, none⟩ (.int .i64 0)) (.cells #[.int .i64 ra, .int .i64 rb, .int .i64 rc] 47) (.cells #[.int .i64 rx, .int .i64 ry] 26)
      have hVX := hVX0.later hbA
      have hbX := hbX0.trans (hbA.mono (Nat.le_of_lt hVX0.lt))
      generalize (((w9.setCell ⟨V, 0, none⟩ (.int .i64 0)).setCell ⟨V, 1, none⟩ (.int .i64 0)).alloc (.cells #[.int .i64 ra, .int .i64 rb, .int .i64 rc] 47)).alloc (.cells #[.int .i64 rx, .int .i64 ry] 26) = wX at hVX hbX ⊢
      clear HV9 HX9 hbA hVX0 hbX0
      have vc0 := hVX.cell 0
      have vc1 := hVX.cell 1
      have vz0 := hVX.frozen 0
      have vz1 := hVX.frozen 1
      have vl := hVX.lt
      simp at vc0 vc1
      go_cut [] (fun wc => Blk wc V 26 #[.int .i64 tx, .int .i64 ty] ∧ Below V wA wc)
      case first =>
        as_aux_lemma =>
          cases hq : numL now
          · have HS : Hid ((tx, ty) = (3, 0)) := hide (by rw [← HTF.out]; unfold trustF; rw [if_pos hq])
            go_wp2_with fail
            refine (lF_any 3 0 _).mono ?_
            rintro e w9 ⟨rfl, hb9⟩
            have hV9 := hVX.later hb9
            have hb9' := hbX.trans (hb9.mono (Nat.le_of_lt hVX.lt))
            clear vc0 vc1 vz0 vz1 vl
            have uc0 := hV9.cell 0
            have uc1 := hV9.cell 1
            have uz0 := hV9.frozen 0
            have uz1 := hV9.frozen 1
            have ul := hV9.lt
            simp at uc0 uc1
            unfold flt
            go_wp2_with fail
            go_meet
            case rel => exact ⟨Blk.cast2 HS.out ((hV9.set 0 _).set 1 _), (hb9'.setCell (p := ⟨V, 0, none⟩) (Nat.le_refl _) _).setCell (p := ⟨V, 1, none⟩) (Nat.le_refl _) _⟩
          · have hsp := fun W => rSpanned_any span W
            rw [show spanF span = (tx, ty) by rw [← HTF.out]; unfold trustF; rw [if_neg (by simp [hq])]] at hsp
            have HSP := hide hsp
            clear hsp
            go_wp2_with fail
            refine (HSP.out _).mono ?_
            rintro e w9 ⟨rfl, hb9⟩
            have hV9 := hVX.later hb9
            have hb9' := hbX.trans (hb9.mono (Nat.le_of_lt hVX.lt))
            clear vc0 vc1 vz0 vz1 vl
            have uc0 := hV9.cell 0
            have uc1 := hV9.cell 1
            have uz0 := hV9.frozen 0
            have uz1 := hV9.frozen 1
            have ul := hV9.lt
            simp at uc0 uc1
            unfold flt
            go_wp2_with fail
            go_meet
            case rel => exact ⟨Blk.cast2 rfl ((hV9.set 0 _).set 1 _), (hb9'.setCell (p := ⟨V, 0, none⟩) (Nat.le_refl _) _).setCell (p := ⟨V, 1, none⟩) (Nat.le_refl _) _⟩
      case rest =>
        obtain ⟨hVY, hbY⟩ := hcut
        obtain ⟨wY, hwY⟩ : ∃ z, z = wc := ⟨_, rfl⟩
        subst hwY
        clear hVX hbX
        clear vc0 vc1 vz0 vz1 vl
        obtain ⟨-, -, -, -, -, -, bT, -⟩ := HK.out _ hbY
        have Tc0 := bT.cell 0
        have Tc1 := bT.cell 1
        have Tz0 := bT.frozen 0
        have Tz1 := bT.frozen 1
        have Tl := bT.lt
        simp at Tc0 Tc1
        clear bT Tz0 Tz1
        have vc0 := hVY.cell 0
        have vc1 := hVY.cell 1
        have vz0 := hVY.frozen 0
        have vz1 := hVY.frozen 1
        have vl := hVY.lt
        simp at vc0 vc1
        go_upto_region 19 with fail
        go_cut [150] (fun b wc => b = .bool false ∧ wY = wc)
        case first =>
          as_aux_lemma =>
            by_cases hx : tx = 0
            · have htz : trustF now span = (0, ty) := by rw [HTF.out, hx]
              have hnw : numL now = true := by
                cases q : numL now
                · unfold trustF at htz
                  rw [if_pos q] at htz
                  cases htz
                · rfl
              have hsp : spanF span = (0, ty) := by
                unfold trustF at htz
                rwa [if_neg (by simp [hnw])] at htz
              have hs2 := spanF_ok (by rw [hsp])
              have hn2 := numL_iff.1 hnw
              have hTV : TV = now + trustD span := by rw [← HTV.out]; unfold trustV; rw [htz, if_pos rfl]
              have hw1 : IntKind.i64.wrap (now + span) = now + span := by rw [IntKind.wrap_i64]; omega
              have hw2 : IntKind.i64.wrap (span.tdiv 4) = span / 4 := by rw [IntKind.wrap_i64, Int.tdiv_eq_ediv_of_nonneg (by omega)]; omega
              have hw2b : span.tdiv 4 = span / 4 := Int.tdiv_eq_ediv_of_nonneg (by omega)
              have hw2c : IntKind.i64.wrap (span / 4) = span / 4 := by rw [IntKind.wrap_i64]; omega
              have hw3 : IntKind.i64.wrap (now + span - span / 4) = now + span - span / 4 := by rw [IntKind.wrap_i64]; omega
              have hw4 : (now + trustD span == now + span - span / 4) = true := by simp [trustD]; omega
              have hw5 : (now + trustD span != now + span - span / 4) = false := by simp [trustD]; omega
              clear hs2 hn2 hsp hnw htz
              subst hx hTV
              go_wp2_with fail
              go_meet
              case rel => exact ⟨rfl, rfl⟩
            · have hTV : TV = 0 := by rw [← HTV.out]; unfold trustV; rw [HTF.out, if_neg hx]
              have hx1 : (tx == 0) = false := beq_eq_false_iff_ne.2 hx
              have hx2 : (tx != 0) = true := by simp [hx]
              clear hx
              subst hTV
              go_wp2_with fail
              go_meet
              case rel => exact ⟨rfl, rfl⟩
        case rest =>
          obtain ⟨rfl, rfl⟩ := hcut
          clear Tc0 Tc1 Tl
          go_upto_region 22 with fail
          have hVX := (hVY.set 0 (.int .i64 0)).set 1 (.int .i64 0)
          have hbX := (hbY.setCell (p := ⟨V, 0, none⟩) (Nat.le_refl _) (.int .i64 0)).setCell (p := ⟨V, 1, none⟩) (Nat.le_refl _) (.int .i64 0)
          simp only [List.setIfInBounds_toArray, List.set_cons_succ, List.set_cons_zero] at hVX
          clear vc0 vc1 vz0 vz1 vl
          generalize (wY.setCell ⟨V, 0, none⟩ (.int .i64 0)).setCell ⟨V, 1, none⟩ (.int .i64 0) = wX at hVX hbX ⊢
          clear hVY hbY
          obtain ⟨bL, -, -, -, -, -, -, -⟩ := HK.out _ hbX
          have Lc0 := bL.cell 0
          have Lc1 := bL.cell 1
          have Lc2 := bL.cell 2
          have Lz0 := bL.frozen 0
          have Lz1 := bL.frozen 1
          have Lz2 := bL.frozen 2
          have Ll := bL.lt
          simp at Lc0 Lc1 Lc2
          clear bL Lz0 Lz1 Lz2
          go_cut [160] (fun b wc => b = .bool (!numL ep || !numL epoch) ∧ wX = wc)
          case first =>
            as_aux_lemma =>
              cases n1 : numL ep <;> cases n2 : numL epoch
              all_goals
                go_wp2_with (go_at_call 25; refine (lNum_any _ _).mono ?_; rintro e w' ⟨rfl, rfl⟩; first | rw [n1] | rw [n2])
                go_meet
                case rel => exact ⟨by rw [n1, n2]; rfl, rfl⟩
          case rest =>
            obtain ⟨rfl, rfl⟩ := hcut
            have vc0 := hVX.cell 0
            have vc1 := hVX.cell 1
            have vz0 := hVX.frozen 0
            have vz1 := hVX.frozen 1
            have vl := hVX.lt
            simp at vc0 vc1
            go_upto_if 160 with fail
            go_cut [] (fun wc => Blk wc V 26 #[.int .i64 ax, .int .i64 ay] ∧ Below V wA wc)
            case first =>
              as_aux_lemma =>
                cases hq : (!numL ep || !numL epoch)
                · have hq2 : ¬ (numL ep = false ∨ numL epoch = false) := by cases n1 : numL ep <;> cases n2 : numL epoch <;> simp [n1, n2] at hq ⊢
                  by_cases hlt : epoch < ep
                  · have HS : Hid ((ax, ay) = (12, 0)) := hide (by rw [← HAF.out]; unfold admitF; rw [if_neg hq2, if_pos hlt])
                    clear hq2
                    go_wp2_with fail
                    refine (lF_any 12 0 _).mono ?_
                    rintro e w9 ⟨rfl, hb9⟩
                    have hV9 := hVX.later hb9
                    have hb9' := hbX.trans (hb9.mono (Nat.le_of_lt hVX.lt))
                    clear vc0 vc1 vz0 vz1 vl
                    have uc0 := hV9.cell 0
                    have uc1 := hV9.cell 1
                    have uz0 := hV9.frozen 0
                    have uz1 := hV9.frozen 1
                    have ul := hV9.lt
                    simp at uc0 uc1
                    unfold flt
                    go_wp2_with fail
                    go_meet
                    case rel => exact ⟨Blk.cast2 HS.out ((hV9.set 0 _).set 1 _), (hb9'.setCell (p := ⟨V, 0, none⟩) (Nat.le_refl _) _).setCell (p := ⟨V, 1, none⟩) (Nat.le_refl _) _⟩
                  · have HS : Hid ((ax, ay) = (0, 0)) := hide (by rw [← HAF.out]; unfold admitF; rw [if_neg hq2, if_neg hlt])
                    clear hq2
                    go_wp2_with fail
                    go_meet
                    case rel => exact ⟨Blk.cast2 HS.out hVX, hbX⟩
                · have hq2 : numL ep = false ∨ numL epoch = false := by cases n1 : numL ep <;> cases n2 : numL epoch <;> simp [n1, n2] at hq ⊢
                  have HS : Hid ((ax, ay) = (3, 0)) := hide (by rw [← HAF.out]; unfold admitF; rw [if_pos hq2])
                  clear hq2
                  go_wp2_with fail
                  refine (lF_any 3 0 _).mono ?_
                  rintro e w9 ⟨rfl, hb9⟩
                  have hV9 := hVX.later hb9
                  have hb9' := hbX.trans (hb9.mono (Nat.le_of_lt hVX.lt))
                  clear vc0 vc1 vz0 vz1 vl
                  have uc0 := hV9.cell 0
                  have uc1 := hV9.cell 1
                  have uz0 := hV9.frozen 0
                  have uz1 := hV9.frozen 1
                  have ul := hV9.lt
                  simp at uc0 uc1
                  unfold flt
                  go_wp2_with fail
                  go_meet
                  case rel => exact ⟨Blk.cast2 HS.out ((hV9.set 0 _).set 1 _), (hb9'.setCell (p := ⟨V, 0, none⟩) (Nat.le_refl _) _).setCell (p := ⟨V, 1, none⟩) (Nat.le_refl _) _⟩
            case rest =>
              obtain ⟨hVY, hbY⟩ := hcut
              obtain ⟨wY, hwY⟩ : ∃ z, z = wc := ⟨_, rfl⟩
              subst hwY
              clear hVX hbX
              clear vc0 vc1 vz0 vz1 vl
              clear Lc0 Lc1 Lc2 Ll
              obtain ⟨-, -, -, -, -, -, -, bE⟩ := HK.out _ hbY
              have Ec0 := bE.cell 0
              have Ec1 := bE.cell 1
              have Ez0 := bE.frozen 0
              have Ez1 := bE.frozen 1
              have El := bE.lt
              simp at Ec0 Ec1
              clear bE Ez0 Ez1
              have vc0 := hVY.cell 0
              have vc1 := hVY.cell 1
              have vz0 := hVY.frozen 0
              have vz1 := hVY.frozen 1
              have vl := hVY.lt
              simp at vc0 vc1
              have hend : Below w.heap.size w wY := HB7.out.trans (hbY.mono HWV.out)
              by_cases hx : ax = 0
              · have hAV : AV = epoch := by rw [← HAV.out]; unfold admitV; rw [HAF.out, if_pos hx]
                subst hx hAV
                go_wp2_with fail
                go_ret
                exact ⟨by simp, hend⟩
              · have hAV : AV = 0 := by rw [← HAV.out]; unfold admitV; rw [HAF.out, if_neg hx]
                have hx1 : (ax == 0) = false := beq_eq_false_iff_ne.2 hx
                have hx2 : (ax != 0) = true := by simp [hx]
                clear hx
                subst hAV
                go_wp2_with fail
                go_ret
                exact ⟨by simp, hend⟩

theorem leaseGrants_walk (who epoch now span : Int) (l : Ls) (w : World) (_ : -9223372036854775808 ≤ who ∧ who ≤ 9223372036854775807) (_ : -9223372036854775808 ≤ epoch ∧ epoch ≤ 9223372036854775807) (_ : -9223372036854775808 ≤ now ∧ now ≤ 9223372036854775807) (_ : -9223372036854775808 ≤ span ∧ span ≤ 9223372036854775807) :
    Calls Try.prog 5 #[lsV l, .int .i64 who, .int .i64 epoch, .int .i64 now, .int .i64 span] w fun e w' => e = .returned (.bool true) ∧ Below w.heap.size w w' := leaseGrants_any l who epoch now span w

end Go.Proofs.Ytdpjakkijoohnaf
