/-
  Texts joined: AsB1.
-/
import Derived.Test.YtnbifobdkjkjlaaMAssignKeepsAsD3
/-
  The document's SameOrders; the walk over assignBegun.
-/
namespace Go.Proofs.Ytnbifobdkjkjlaa
open Go.RowKit
set_option linter.unusedVariables false

set_option maxRecDepth 100000 in
set_option maxHeartbeats 4000000 in
theorem SameOrders_eq (u v : Value) (l : List Od) (w : World) (hu : RdG odE w u l) (hv : RdG odE w v l) :
    Calls Try.prog 8 #[u, v] w fun e w' => e = .returned (.bool true) ∧ Below w.heap.size w w' := by
  have HU := hide hu
  have HV := hide hv
  obtain ⟨ao, cap, rfl, hc1, hc2⟩ := hu.shape
  obtain ⟨bo, cap2, rfl, _, _⟩ := hv.shape
  unfold maxLen at hc2
  clear hu hv
  go_enter Try.func8, Try.ntmps8
  go_wp2_with fail
  go_loopw [5] (fun iv wr => ∃ j : Nat, j ≤ l.length ∧ iv = .int .i64 j ∧ Below w.heap.size w wr)
    (fun iv _ => l.length - (intOf iv).toNat)
  case atStart => exact ⟨0, by omega, rfl, Below.refl _ _⟩
  case round =>
    obtain ⟨j, hj, rfl, hbr⟩ := hrel
    have HBR := hide hbr
    by_cases hlt : j < l.length
    · obtain ⟨r, hr⟩ : ∃ r, l[j]? = some r := ⟨_, List.getElem?_eq_getElem hlt⟩
      obtain ⟨b1, o1, rfl, hb1, q1⟩ := HU.out.here hr
      obtain ⟨b2, o2, rfl, hb2, q2⟩ := HV.out.here hr
      obtain ⟨c0, c1, c2, c3, c4⟩ := (q1.below hbr).order
      obtain ⟨d0, d1, d2, d3, d4⟩ := (q2.below hbr).order
      have hk1 : (0 : Int) ≤ (j : Int) := by omega
      have hk2 : (j : Int) < (l.length : Int) := by omega
      have hl1 : b1 < wr.heap.size := Nat.lt_of_lt_of_le hb1 hbr.size
      have hl2 : b2 < wr.heap.size := Nat.lt_of_lt_of_le hb2 hbr.size
      obtain ⟨rk, ri, rh, rt, rr⟩ := r
      simp only at c0 c1 c2 c3 c4 d0 d1 d2 d3 d4
      clear q1 q2 hr hbr
      go_wp2_with fail
      go_quiet (fail)
      go_wp2_with fail
      go_roundw
      case rel => exact ⟨j + 1, by omega, by go_num, below_drewN HBR.out _⟩
      case measure => simp [intOf]; omega
    · have hje : j = l.length := by omega
      subst hje
      clear hbr
      go_wp2_with fail
      go_ret
      exact ⟨rfl, HBR.out⟩

set_option maxRecDepth 100000 in
set_option maxHeartbeats 8000000 in
theorem assignBegun_any (w : World) : Calls Try.prog 6 #[] w fun e w' => e = .returned (.bool true) ∧ Below w.heap.size w w' := by
  have hob : ordB newBd ⟨1, 7, 0, 0, ⟨#[]⟩⟩ = dueBd := by kernel_rfl
  have hof : ordF newBd ⟨1, 7, 0, 0, ⟨#[]⟩⟩ = (0, 0) := by kernel_rfl
  have hwf : WfP (parts newBd.sl) := (fineB_iff.1 new_fine).wfp
  have HN := hide (New_any w)
  have HD := hide (fun W hv sv hh hs => Do_any newBd hv sv ⟨1, 7, 0, 0, ⟨#[]⟩⟩ W hh hs (by decide) (by decide) hwf (fun s hs => by
    have : s = sl0 := List.mem_singleton.1 hs
    subst this
    decide))
  simp only [hob, hof] at HD
  unfold odV flt at HD
  dsimp only at HD
  clear hob hof hwf
  go_enter Try.func6, Try.ntmps6
  go_upto_region 2 with (first
    | (go_at_call 12; refine HN.out.mono ?_; rintro e w1 ⟨hv, sv, rfl, ho1, ho2, hb1⟩; have HO1 := hide ho1; have HO2 := hide ho2; have HB1 := hide hb1; clear ho1 ho2 hb1)
    | (go_at_call 13; refine (HD.out w1 hv sv (RdG.ofOwns HO1.out) (RdG.ofOwns HO2.out)).mono ?_; rintro e w2 ⟨hv2, sv2, rfl, ho3, ho4, hb2⟩; obtain ⟨ah, ch, rfl⟩ := owns_shapeA ho3; obtain ⟨as_, cs, rfl⟩ := owns_shapeA ho4; have HO3 := hide ho3; have HO4 := hide ho4; have HB2 := hide (HB1.out.trans (hb2.mono HB1.out.size)); clear ho3 ho4 hb2; unfold bdV))
  have hbT := below_alloc2 w2 (.cells #[.slice ah dueBd.hs.length ch, .slice as_ dueBd.sl.length cs, .int .i64 dueBd.tu, .int .i64 dueBd.nx] 27) (.cells #[.int .i64 0, .int .i64 0] 30)
  have HBd := hide (Blk.at0of2 w2 (.cells #[.int .i64 0, .int .i64 0] 30) 27 #[.slice ah dueBd.hs.length ch, .slice as_ dueBd.sl.length cs, .int .i64 dueBd.tu, .int .i64 dueBd.nx])
  have HFt := hide (Blk.at1 w2 (.cells #[.slice ah dueBd.hs.length ch, .slice as_ dueBd.sl.length cs, .int .i64 dueBd.tu, .int .i64 dueBd.nx] 27) 30 #[.int .i64 0, .int .i64 0])
  have HA := hide (HB2.out.trans (hbT.mono HB2.out.size))
  have HHs := hide ((RdG.ofOwns HO3.out).below hbT)
  have HSl := hide ((RdG.ofOwns HO4.out).below hbT)
  generalize hwX : ((w2.alloc (.cells #[.slice ah dueBd.hs.length ch, .slice as_ dueBd.sl.length cs, .int .i64 dueBd.tu, .int .i64 dueBd.nx] 27)).alloc (.cells #[.int .i64 0, .int .i64 0] 30)) = X2 at HBd HFt HA HHs HSl ⊢
  clear hwX hbT HO1 HO2 HO3 HO4 HB1 HB2 HN HD
  have HU := hide (Due1_any _ _ X2 HHs.out HSl.out)
  unfold bdV flt at HU
  dsimp only at HU
  go_upto_region 3 with (first
    | (refine wpList_load_blk HBd.out Try.underlying27 rfl Try.sizeBoard rfl rfl rfl ?_)
    | (go_at_call 14; refine HU.out.mono ?_; rintro e w4 ⟨v4, rfl, ho4, hb4⟩; obtain ⟨lo, lc, rfl⟩ := owns_shapeA ho4; have HO4 := hide ho4; have HB4 := hide hb4; clear ho4 hb4))
  have hbT := below_allocG w4 (.cells #[.int .i64 0, .int .i64 0] 30)
  have hbX := HB4.out.trans (hbT.mono HB4.out.size)
  have HF1 := hide (HFt.out.later hbX)
  have HF2 := hide (Blk.new w4 30 #[.int .i64 0, .int .i64 0])
  have HA2 := hide (HA.out.trans (hbX.mono HA.out.size))
  have HLd := hide ((RdG.ofOwns HO4.out).below hbT)
  generalize hwX : w4.alloc (.cells #[.int .i64 0, .int .i64 0] 30) = X4 at HF1 HF2 HA2 HLd ⊢
  clear hwX hbT hbX HO4 HB4 HBd HFt HA HHs HSl HU
  have f0 := HF1.out.cell 0
  have fl := HF1.out.lt
  have g0 := HF2.out.cell 0
  have gl := HF2.out.lt
  simp at f0 g0
  have hbL := below_allocG X4 (.cells #[.int .i64 3, .int .i64 1, .int .i64 7, .int .i64 0, .string ⟨#[]⟩] 50)
  have HLI : Hid (RdG odE (X4.alloc (.cells #[.int .i64 3, .int .i64 1, .int .i64 7, .int .i64 0, .string ⟨#[]⟩] 50)) (.slice (some ⟨X4.heap.size, 0, none⟩) 1 1) [⟨3, 1, 7, 0, ⟨#[]⟩⟩]) := hide (RdG.newL (E := odE) X4 [⟨3, 1, 7, 0, ⟨#[]⟩⟩] 50 #[.int .i64 3, .int .i64 1, .int .i64 7, .int .i64 0, .string ⟨#[]⟩] rfl (by simp))
  have HSO := hide (SameOrders_eq _ _ [⟨3, 1, 7, 0, ⟨#[]⟩⟩] _ (HLd.out.below hbL) HLI.out)
  have HBL := hide hbL
  clear hbL
  go_wp2_with (go_at_call 8; refine HSO.out.mono ?_; rintro e w6 ⟨rfl, hb6⟩; have HA6 := hide (HA2.out.trans ((HBL.out.trans (hb6.mono HBL.out.size)).mono HA2.out.size)); clear hb6)
  go_ret
  exact ⟨rfl, HA6.out⟩

end Go.Proofs.Ytnbifobdkjkjlaa
