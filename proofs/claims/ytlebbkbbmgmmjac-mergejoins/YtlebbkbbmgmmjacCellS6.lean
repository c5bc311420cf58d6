/-
  The walk over the document's PutCell.
-/
import Derived.Test.YtlebbkbbmgmmjacCellS5
namespace Go.Proofs.Ytlebbkbbmgmmjac
open Go.RowKit

theorem RdC.grownNone {w w' : World} {v : Value} {cs : List Cl} (h : RdC w v cs) (hg : w.grownBy w' none) : RdC w' v cs :=
  h.below ⟨hg.os, hg.tape, hg.output, hg.size, fun k hk => hg.block k hk (by simp)⟩

theorem lt_alloc (w : World) (o : Obj) : w.heap.size < (w.alloc o).heap.size := by simp

set_option maxRecDepth 100000 in
set_option maxHeartbeats 4000000 in
theorem PutCell_any (v : Value) (cs : List Cl) (c : Cl) (w : World) (hv : RdC w v cs) (hp : cs.Pairwise Lt) (hl : cs.length ≤ 100000) :
    Calls Try.prog 94 #[v, cA c] w fun e w' => ∃ v', e = .returned v' ∧ RdC w' v' (mrg cs [c]) ∧ Below w.heap.size w w' := by
  obtain ⟨ao, cap, hvv, hc1, hc2⟩ := hv.shape
  subst hvv
  unfold maxLen at hc2
  unfold cA
  have HP := hide hp
  clear hp
  go_enter Try.func94, Try.ntmps94
  go_wp2_with fail
  have hC0 : Bk (w.alloc (.cells #[.string c.row, .string c.col, .int .i64 c.time, .bool c.gone, .string c.val] 53)) w.heap.size 53 (ca c) := Bk.new w _ _
  have hbC := below_alloc' w (.cells #[.string c.row, .string c.col, .int .i64 c.time, .bool c.gone, .string c.val] 53)
  have hzA : (w.alloc (.cells #[.string c.row, .string c.col, .int .i64 c.time, .bool c.gone, .string c.val] 53)).heap.size = w.heap.size + 1 := by simp
  generalize w.alloc (.cells #[.string c.row, .string c.col, .int .i64 c.time, .bool c.gone, .string c.val] 53) = wA at hC0 hbC hzA ⊢
  go_loopw [5] (fun i wr => ∃ k : Nat, k ≤ cs.length ∧ i = .int .i64 k ∧ (∀ x ∈ cs.take k, Lt x c) ∧ Below wA.heap.size wA wr)
    (fun i _ => cs.length - (intOf i).toNat)
  case atStart => exact ⟨0, by omega, rfl, by simp, Below.refl _ _⟩
  case round =>
    obtain ⟨k, hk, rfl, hbefore, hbel⟩ := hrel
    have HB := hide hbefore
    clear hbefore
    have hzr := hbel.size
    have hbw : Below w.heap.size w wr := hbC.trans (hbel.mono (by omega))
    have hk1 : (0 : Int) ≤ (k : Int) := by omega
    by_cases hlt : k < cs.length
    · obtain ⟨x, hx⟩ : ∃ x, cs[k]? = some x := ⟨_, List.getElem?_eq_getElem hlt⟩
      obtain ⟨b, off, rfl, _, hxk⟩ := hv.hereD hx
      have hk2 : (k : Int) < (cs.length : Int) := by omega
      have hd1 : decide ((k : Int) < (cs.length : Int)) = true := by simp; omega
      have hd2 : decide (k < cs.length) = true := by simp; omega
      have hkeep : ∀ W, Below wA.heap.size wA W → (W.cell? ⟨w.heap.size, 0, none⟩ = some (.string c.row) ∧ W.cell? ⟨w.heap.size, 1, none⟩ = some (.string c.col) ∧ W.cell? ⟨w.heap.size, 2, none⟩ = some (.int .i64 c.time) ∧ W.cell? ⟨w.heap.size, 3, none⟩ = some (.bool c.gone) ∧ W.cell? ⟨w.heap.size, 4, none⟩ = some (.string c.val)) ∧ (W.cell? ⟨b, off + k * 5, none⟩ = some (.string x.row) ∧ W.cell? ⟨b, off + k * 5 + 1, none⟩ = some (.string x.col) ∧ W.cell? ⟨b, off + k * 5 + 2, none⟩ = some (.int .i64 x.time) ∧ W.cell? ⟨b, off + k * 5 + 3, none⟩ = some (.bool x.gone) ∧ W.cell? ⟨b, off + k * 5 + 4, none⟩ = some (.string x.val)) := fun W h => by
        obtain ⟨c0, c1, c2, c3, c4⟩ := (hC0.below h (by omega)).facts
        obtain ⟨d0, d1, d2, d3, d4⟩ := hxk.below (hbC.trans (h.mono (by omega)))
        exact ⟨⟨c0, c1, c2, c3, c4⟩, d0, d1, d2, d3, d4⟩
      have HK := hide hkeep
      obtain ⟨⟨c0, c1, c2, c3, c4⟩, d0, d1, d2, d3, d4⟩ := hkeep wr hbel
      have HX := hide hx
      clear hkeep hx hxk
      cases h7 : aheadB x c
      · have HNL : Hid (¬ Lt x c) := hide (fun h => by rw [aheadB_iff.2 h] at h7; cases h7)
        have hspl : cs = cs.take k ++ x :: cs.drop (k + 1) := by
          have e := (List.getElem?_eq_some_iff.1 HX.out).2
          rw [← e, ← List.drop_eq_getElem_cons hlt, List.take_append_drop]
        have HSPL := hide hspl
        clear hspl
        go_wp2_with fail
        go_region_held3 (fun W => (W.cell? ⟨w.heap.size, 0, none⟩ = some (.string c.row) ∧ W.cell? ⟨w.heap.size, 1, none⟩ = some (.string c.col) ∧ W.cell? ⟨w.heap.size, 2, none⟩ = some (.int .i64 c.time) ∧ W.cell? ⟨w.heap.size, 3, none⟩ = some (.bool c.gone) ∧ W.cell? ⟨w.heap.size, 4, none⟩ = some (.string c.val)) ∧ (W.cell? ⟨b, off + k * 5, none⟩ = some (.string x.row) ∧ W.cell? ⟨b, off + k * 5 + 1, none⟩ = some (.string x.col) ∧ W.cell? ⟨b, off + k * 5 + 2, none⟩ = some (.int .i64 x.time) ∧ W.cell? ⟨b, off + k * 5 + 3, none⟩ = some (.bool x.gone) ∧ W.cell? ⟨b, off + k * 5 + 4, none⟩ = some (.string x.val))) (exact HK.out _ (by go_grown)) (first
          | (go_at_call 51; refine (Ahead_any x c _).mono ?_; rintro e w2 ⟨rfl, hb2⟩; rw [h7]; have hb12 : Below wA.heap.size wA w2 := Below.trans (by go_grown) (hb2.mono hzr)))
        have hz12 := hb12.size
        clear c0 c1 c2 c3 c4 d0 d1 d2 d3 d4
        obtain ⟨⟨c0, c1, c2, c3, c4⟩, d0, d1, d2, d3, d4⟩ := HK.out w2 hb12
        cases h8 : aheadB c x
        · have HSM := hide (Lt_total HNL.out (fun h => by rw [aheadB_iff.2 h] at h8; cases h8))
          go_wp2_with fail
          go_region_held3 (fun W => (W.cell? ⟨w.heap.size, 0, none⟩ = some (.string c.row) ∧ W.cell? ⟨w.heap.size, 1, none⟩ = some (.string c.col) ∧ W.cell? ⟨w.heap.size, 2, none⟩ = some (.int .i64 c.time) ∧ W.cell? ⟨w.heap.size, 3, none⟩ = some (.bool c.gone) ∧ W.cell? ⟨w.heap.size, 4, none⟩ = some (.string c.val)) ∧ (W.cell? ⟨b, off + k * 5, none⟩ = some (.string x.row) ∧ W.cell? ⟨b, off + k * 5 + 1, none⟩ = some (.string x.col) ∧ W.cell? ⟨b, off + k * 5 + 2, none⟩ = some (.int .i64 x.time) ∧ W.cell? ⟨b, off + k * 5 + 3, none⟩ = some (.bool x.gone) ∧ W.cell? ⟨b, off + k * 5 + 4, none⟩ = some (.string x.val))) (exact HK.out _ (by go_grown)) (first
            | (go_at_call 51; refine (Ahead_any c x _).mono ?_; rintro e w3 ⟨rfl, hb3⟩; rw [h8]; have hb13 : Below wA.heap.size wA w3 := Below.trans (by go_grown) (hb3.mono hz12)))
          have hz13 := hb13.size
          have hbw3 : Below w.heap.size w w3 := hbC.trans (hb13.mono (by omega))
          clear c0 c1 c2 c3 c4 d0 d1 d2 d3 d4
          obtain ⟨⟨c0, c1, c2, c3, c4⟩, d0, d1, d2, d3, d4⟩ := HK.out w3 hb13
          have hl1 : 0 + cs.length ≤ 1000000000 := by omega
          have HV := hide (hv.below hbw3)
          go_upto_region 6 with (at_builtin; go_must (refine wpList_append_rdC (cs := []) (World.ownsRow_nil w3 w3.heap.size 53 5) HV.out Try.underlying22 Try.info53 rfl rfl rfl rfl rfl hl1 (by decide) (Nat.le_refl _) ?_); intro v4 w4 ho4 hb4 hg4; clear hg4; rw [Nat.zero_add, List.nil_append] at ho4)
          obtain ⟨g, cap4, rfl⟩ : ∃ g cap4, v4 = .slice (some ⟨g, 0, none⟩) cs.length cap4 := by
            rcases ho4.2 with ⟨_, h0⟩ | ⟨g, cap4, cur, h0, _⟩
            · omega
            · exact ⟨g, cap4, h0⟩
          have hgl := ho4.lt g rfl
          obtain ⟨c0, c1, c2, c3, c4⟩ := (HK.out w4 (hb13.trans (hb4.mono hz13))).1
          have hne : w.heap.size ≠ g := by omega
          obtain ⟨b9, off9, he9, _, hat9⟩ := (RdC.ofOwns ho4).hereD HX.out
          simp only [Option.some.injEq, Addr.mk.injEq, and_true] at he9
          obtain ⟨rfl, rfl⟩ := he9
          rw [Nat.zero_add] at hat9
          obtain ⟨e0, e1, e2, e3, e4⟩ := hat9
          have r0 := ho4.frozenAt (k * 5)
          have r1 := ho4.frozenAt (k * 5 + 1)
          have r2 := ho4.frozenAt (k * 5 + 2)
          have r3 := ho4.frozenAt (k * 5 + 3)
          have r4 := ho4.frozenAt (k * 5 + 4)
          have s0 := (ho4.stored (k * 5) (.string c.row)).1
          have s1 := (s0.stored (k * 5 + 1) (.string c.col)).1
          have s2 := (s1.stored (k * 5 + 2) (.int .i64 c.time)).1
          have s3 := (s2.stored (k * 5 + 3) (.bool c.gone)).1
          have s4 := (s3.stored (k * 5 + 4) (.string c.val)).1
          rw [cc_set cs k c hlt] at s4
          have HS4 := hide s4
          have hb5 := ((((hb4.setCell (p := ⟨g, k * 5, none⟩) hgl.1 (.string c.row)).setCell (p := ⟨g, k * 5 + 1, none⟩) hgl.1 (.string c.col)).setCell (p := ⟨g, k * 5 + 2, none⟩) hgl.1 (.int .i64 c.time)).setCell (p := ⟨g, k * 5 + 3, none⟩) hgl.1 (.bool c.gone)).setCell (p := ⟨g, k * 5 + 4, none⟩) hgl.1 (.string c.val)
          have HB5 := hide (hbw3.trans (hb5.mono hbw3.size))
          have HE : Hid (mrg cs [c] = cs.set k c) := hide (by
            have h1 := mrg_put (r := cs.drop (k + 1)) HB.out HSM.out
            rw [← HSPL.out] at h1
            rw [h1, List.set_eq_take_append_cons_drop, if_pos hlt])
          clear s0 s1 s2 s3 s4 hb5 ho4
          go_wp2_with fail
          go_ret
          exact ⟨_, rfl, by rw [HE.out]; exact RdC.ofOwns HS4.out, HB5.out⟩
        · have HLT := hide (aheadB_iff.1 h8)
          have HE : Hid (mrg cs [c] = cs.take k ++ [c] ++ cs.drop k) := hide (by
            have h1 := mrg_ins (r := cs.drop (k + 1)) HB.out HLT.out
            rw [← HSPL.out] at h1
            rw [h1, List.append_assoc, List.drop_eq_getElem_cons hlt, (List.getElem?_eq_some_iff.1 HX.out).2]
            rfl)
          have hs1 := run_slice_uptoC (P := Try.prog) Try.underlying22 (by kernel_rfl) Try.info53 (some ⟨b, off, none⟩) cs.length cap k (k : Int) rfl (by omega)
          have hs2 := run_slice_fromC (P := Try.prog) Try.underlying22 (by kernel_rfl) Try.info53 (some ⟨b, off, none⟩) cs.length cap k (k : Int) rfl (by omega)
          have hV1 := hv.uptoC (hi := k) (by omega)
          have hV2 := hv.from (lo := k) (by omega)
          generalize hg1 : Go.sliced (some ⟨b, off, none⟩) 0 k cap 5 = V1 at hs1 hV1
          generalize hg2 : Go.sliced (some ⟨b, off, none⟩) k cs.length cap 5 = V2 at hs2 hV2
          clear hg1 hg2
          have hlA : (cs.take k).length + (cs.drop k).length ≤ 100000 := by rw [← List.length_append, List.take_append_drop]; exact hl
          obtain ⟨vo1, vc1, hw1, _, _⟩ := hV1.shape
          obtain ⟨vo2, vc2, hw2, _, _⟩ := hV2.shape
          generalize cs.take k = A at hV1 hlA hw1 HE
          generalize cs.drop k = B at hV2 hlA hw2 HE
          subst hw1 hw2
          have hV1w := hV1
          have hV2w := hV2
          clear hV1 hV2
          go_wp2_with fail
          go_region_held3 (fun W => (W.cell? ⟨w.heap.size, 0, none⟩ = some (.string c.row) ∧ W.cell? ⟨w.heap.size, 1, none⟩ = some (.string c.col) ∧ W.cell? ⟨w.heap.size, 2, none⟩ = some (.int .i64 c.time) ∧ W.cell? ⟨w.heap.size, 3, none⟩ = some (.bool c.gone) ∧ W.cell? ⟨w.heap.size, 4, none⟩ = some (.string c.val)) ∧ (W.cell? ⟨b, off + k * 5, none⟩ = some (.string x.row) ∧ W.cell? ⟨b, off + k * 5 + 1, none⟩ = some (.string x.col) ∧ W.cell? ⟨b, off + k * 5 + 2, none⟩ = some (.int .i64 x.time) ∧ W.cell? ⟨b, off + k * 5 + 3, none⟩ = some (.bool x.gone) ∧ W.cell? ⟨b, off + k * 5 + 4, none⟩ = some (.string x.val))) (exact HK.out _ (by go_grown)) (first
            | (go_at_call 51; refine (Ahead_any c x _).mono ?_; rintro e wx ⟨rfl, hb3⟩; rw [h8]; have hb13 : Below wA.heap.size wA wx := Below.trans (by go_grown) (hb3.mono hz12)))
          have hz13 := hb13.size
          have hbw0 : Below w.heap.size w wx := hbC.trans (hb13.mono (by omega))
          have hzx : w.heap.size ≤ wx.heap.size := hbw0.size
          clear c0 c1 c2 c3 c4 d0 d1 d2 d3 d4
          have hkc2 : ∀ W, Below wx.heap.size wx W → W.cell? ⟨w.heap.size, 0, none⟩ = some (.string c.row) ∧ W.cell? ⟨w.heap.size, 1, none⟩ = some (.string c.col) ∧ W.cell? ⟨w.heap.size, 2, none⟩ = some (.int .i64 c.time) ∧ W.cell? ⟨w.heap.size, 3, none⟩ = some (.bool c.gone) ∧ W.cell? ⟨w.heap.size, 4, none⟩ = some (.string c.val) := fun W h => (HK.out W (hb13.trans (h.mono hz13))).1
          obtain ⟨c0, c1, c2, c3, c4⟩ := hkc2 wx (Below.refl _ _)
          have HKC := hide hkc2
          have HV1 := hide (hV1w.below hbw0)
          have HV2 := hide (hV2w.below hbw0)
          clear hkc2 hV1w hV2w
          have hl1 : 0 + A.length ≤ 1000000000 := by omega
          have hl2 : A.length + [c].length ≤ 1000000000 := by simp; omega
          have hl3 : A.length + 1 + B.length ≤ 1000000000 := by omega
          go_upto_region 8 with fail
          go_region_held3 (fun W => W.cell? ⟨w.heap.size, 0, none⟩ = some (.string c.row) ∧ W.cell? ⟨w.heap.size, 1, none⟩ = some (.string c.col) ∧ W.cell? ⟨w.heap.size, 2, none⟩ = some (.int .i64 c.time) ∧ W.cell? ⟨w.heap.size, 3, none⟩ = some (.bool c.gone) ∧ W.cell? ⟨w.heap.size, 4, none⟩ = some (.string c.val)) (exact HKC.out _ (by go_grown)) (first
            | (have k9 := ho2; refine step_append_rdC k9 (by exact HV2.out.below hbx2) Try.underlying22 Try.info53 rfl (by rfl) (by rfl) (by rfl) (by rfl) hl3 (by decide) (by exact hbx2.size) ?_; intro v3 w3 ho3 hb3 hg3; have hbx3 := hbx2.trans hb3; have hzx3 := hbx3.size; obtain ⟨ao3, cap3, hv3⟩ := ownsC_shape ho3; subst hv3)
            | (have k9 := ho1; refine step_append_rdC (k9.alloc _) (RdC.new w1 c _) Try.underlying22 Try.info53 rfl (by rfl) (by rfl) (by rfl) (by rfl) hl2 (by decide) (by exact Nat.le_trans hbx1.size (Nat.le_of_lt (lt_alloc w1 _))) ?_; intro v2 w2 ho2 hb2 hg2; rw [List.length_singleton] at ho2; have hbx2 := (hbx1.alloc hbx1.size (.cells #[.string c.row, .string c.col, .int .i64 c.time, .bool c.gone, .string c.val] 53)).trans hb2; have hzx2 := hbx2.size; obtain ⟨ao2, cap2, hv2⟩ := ownsC_shape ho2; subst hv2)
            | (have k9 := hN1; refine step_append_rdC ho1 k9 Try.underlying22 Try.info53 rfl (by rfl) (by rfl) (by rfl) (by rfl) hl2 (by decide) (by exact hbx1.size) ?_; intro v2 w2 ho2 hb2 hg2; rw [List.length_singleton] at ho2; have hbx2 := hbx1.trans hb2; have hzx2 := hbx2.size; obtain ⟨ao2, cap2, hv2⟩ := ownsC_shape ho2; subst hv2)
            | (refine step_append_rdC (cs := []) (World.ownsRow_nil _ wx.heap.size _ _) (by exact HV1.out) Try.underlying22 Try.info53 rfl (by rfl) (by rfl) (by rfl) (by rfl) hl1 (by decide) (by exact Nat.le_refl _) ?_; intro v1 w1 ho1 hb1 hg1; rw [Nat.zero_add, List.nil_append] at ho1; have hbx1 : Below wx.heap.size wx w1 := Below.trans (by go_grown) hb1; have hzx1 := hbx1.size; obtain ⟨ao1, cap1, hv1⟩ := ownsC_shape ho1; subst hv1)
            | (refine step_append_rdC (cs := []) (World.ownsRow_nil _ wx.heap.size _ _) (by exact HV1.out.alloc _) Try.underlying22 Try.info53 rfl (by rfl) (by rfl) (by rfl) (by rfl) hl1 (by decide) (by exact Nat.le_of_lt (lt_alloc wx _)) ?_; intro v1 w1 ho1 hb1 hg1; rw [Nat.zero_add, List.nil_append] at ho1; have hbx1 : Below wx.heap.size wx w1 := Below.trans (by go_grown) hb1; have hzx1 := hbx1.size; have hN1 : RdC w1 (.slice (some ⟨wx.heap.size, 0, none⟩) 1 1) [c] := RdC.grownNone (w := (wx.alloc (.cells #[.string c.row, .string c.col, .int .i64 c.time, .bool c.gone, .string c.val] 53)).drew) (show RdC (wx.alloc (.cells #[.string c.row, .string c.col, .int .i64 c.time, .bool c.gone, .string c.val] 53)) _ _ from RdC.new wx c _) hg1; obtain ⟨ao1, cap1, hv1⟩ := ownsC_shape ho1; subst hv1))
          all_goals
            have hr3 := RdC.ofOwns ho3
            go_wp2_with fail
            go_ret
            exact ⟨_, rfl, by rw [HE.out]; exact hr3, hbw0.trans (hbx3.mono hzx)⟩
      · have HLT := hide (aheadB_iff.1 h7)
        go_wp2_with fail
        go_region_held3 (fun W => (W.cell? ⟨w.heap.size, 0, none⟩ = some (.string c.row) ∧ W.cell? ⟨w.heap.size, 1, none⟩ = some (.string c.col) ∧ W.cell? ⟨w.heap.size, 2, none⟩ = some (.int .i64 c.time) ∧ W.cell? ⟨w.heap.size, 3, none⟩ = some (.bool c.gone) ∧ W.cell? ⟨w.heap.size, 4, none⟩ = some (.string c.val)) ∧ (W.cell? ⟨b, off + k * 5, none⟩ = some (.string x.row) ∧ W.cell? ⟨b, off + k * 5 + 1, none⟩ = some (.string x.col) ∧ W.cell? ⟨b, off + k * 5 + 2, none⟩ = some (.int .i64 x.time) ∧ W.cell? ⟨b, off + k * 5 + 3, none⟩ = some (.bool x.gone) ∧ W.cell? ⟨b, off + k * 5 + 4, none⟩ = some (.string x.val))) (exact HK.out _ (by go_grown)) (first
          | (go_at_call 51; refine (Ahead_any x c _).mono ?_; rintro e w2 ⟨rfl, hb2⟩; rw [h7]; have hb12 : Below wA.heap.size wA w2 := Below.trans (by go_grown) (hb2.mono hzr)))
        go_wp2_with fail
        go_roundw
        case rel => exact ⟨k + 1, by omega, by go_num, fun y hy => by rw [List.take_add_one, HX.out] at hy; rcases List.mem_append.1 hy with hy | hy; exact HB.out y hy; simp at hy; rw [hy]; exact HLT.out, hb12⟩
        case measure => simp [intOf]; omega
    · have hkl : k = cs.length := by omega
      have HE : Hid (mrg cs [c] = cs ++ [c]) := hide (mrg_end (fun y hy => HB.out y (by rw [hkl, List.take_length]; exact hy)))
      have hd1 : decide ((k : Int) < (cs.length : Int)) = false := by simp; omega
      have hd2 : decide (k < cs.length) = false := by simp; omega
      subst hkl
      have hs1 := run_slice_uptoC (P := Try.prog) Try.underlying22 (by kernel_rfl) Try.info53 ao cs.length cap cs.length (cs.length : Int) rfl hc1
      have hs2 := run_slice_fromC (P := Try.prog) Try.underlying22 (by kernel_rfl) Try.info53 ao cs.length cap cs.length (cs.length : Int) rfl (Nat.le_refl _)
      have hV1 := hv.uptoC (hi := cs.length) (Nat.le_refl _)
      have hV2 := hv.from (lo := cs.length) (Nat.le_refl _)
      rw [List.take_length] at hV1
      rw [List.drop_length] at hV2
      generalize hg1 : Go.sliced ao 0 cs.length cap 5 = V1 at hs1 hV1
      generalize hg2 : Go.sliced ao cs.length cs.length cap 5 = V2 at hs2 hV2
      clear hg1 hg2
      obtain ⟨vo1, vc1, hw1, _, _⟩ := hV1.shape
      obtain ⟨vo2, vc2, hw2, _, _⟩ := hV2.shape
      have HV1 := hide hV1
      have HV2 := hide hV2
      clear hV1 hV2
      subst hw1 hw2
      have hkc : ∀ W, Below wr.heap.size wr W → W.cell? ⟨w.heap.size, 0, none⟩ = some (.string c.row) ∧ W.cell? ⟨w.heap.size, 1, none⟩ = some (.string c.col) ∧ W.cell? ⟨w.heap.size, 2, none⟩ = some (.int .i64 c.time) ∧ W.cell? ⟨w.heap.size, 3, none⟩ = some (.bool c.gone) ∧ W.cell? ⟨w.heap.size, 4, none⟩ = some (.string c.val) := fun W h => (hC0.below (hbel.trans (h.mono hzr)) (by omega)).facts
      have HKC := hide hkc
      obtain ⟨c0, c1, c2, c3, c4⟩ := hkc wr (Below.refl _ _)
      clear hkc
      have hbw0 := hbw
      have hzx : w.heap.size ≤ wr.heap.size := by omega
      have hl1 : 0 + cs.length ≤ 1000000000 := by omega
      have hl2 : cs.length + [c].length ≤ 1000000000 := by simp; omega
      have hl3 : cs.length + 1 + ([] : List Cl).length ≤ 1000000000 := by simp; omega
      clear c0 c1 c2 c3 c4 hbw0 hzx
      go_wp2_with fail
      go_quiet (fail)
      have hbq : Below wr.heap.size wr (wr.drewN nq) := below_drewN (Below.refl _ _) _
      generalize wr.drewN nq = wq at hbq ⊢
      go_wp2_with fail
      go_quiet (fail)
      have hbwx : Below wr.heap.size wr (wq.drewN nq) := below_drewN hbq _
      generalize wq.drewN nq = wx at hbwx ⊢
      go_upto_region 8 with fail
      have hbw0 : Below w.heap.size w wx := hbw.trans (hbwx.mono (by omega))
      have hzx : w.heap.size ≤ wx.heap.size := hbw0.size
      have hkc2 : ∀ W, Below wx.heap.size wx W → W.cell? ⟨w.heap.size, 0, none⟩ = some (.string c.row) ∧ W.cell? ⟨w.heap.size, 1, none⟩ = some (.string c.col) ∧ W.cell? ⟨w.heap.size, 2, none⟩ = some (.int .i64 c.time) ∧ W.cell? ⟨w.heap.size, 3, none⟩ = some (.bool c.gone) ∧ W.cell? ⟨w.heap.size, 4, none⟩ = some (.string c.val) := fun W h => HKC.out W (hbwx.trans (h.mono hbwx.size))
      obtain ⟨c0, c1, c2, c3, c4⟩ := hkc2 wx (Below.refl _ _)
      clear HKC
      have HKC := hide hkc2
      clear hkc2
      have hV1 := HV1.out.below hbw0
      have hV2 := HV2.out.below hbw0
      clear HV1 HV2
      have HV1 := hide hV1
      have HV2 := hide hV2
      clear hV1 hV2
      go_region_held3 (fun W => W.cell? ⟨w.heap.size, 0, none⟩ = some (.string c.row) ∧ W.cell? ⟨w.heap.size, 1, none⟩ = some (.string c.col) ∧ W.cell? ⟨w.heap.size, 2, none⟩ = some (.int .i64 c.time) ∧ W.cell? ⟨w.heap.size, 3, none⟩ = some (.bool c.gone) ∧ W.cell? ⟨w.heap.size, 4, none⟩ = some (.string c.val)) (exact HKC.out _ (by go_grown)) (first
        | (have k9 := ho2; refine step_append_rdC k9 (by exact HV2.out.below hbx2) Try.underlying22 Try.info53 rfl (by rfl) (by rfl) (by rfl) (by rfl) hl3 (by decide) (by exact hbx2.size) ?_; intro v3 w3 ho3 hb3 hg3; have hbx3 := hbx2.trans hb3; have hzx3 := hbx3.size; obtain ⟨ao3, cap3, hv3⟩ := ownsC_shape ho3; subst hv3)
        | (have k9 := ho1; refine step_append_rdC (k9.alloc _) (RdC.new w1 c _) Try.underlying22 Try.info53 rfl (by rfl) (by rfl) (by rfl) (by rfl) hl2 (by decide) (by exact Nat.le_trans hbx1.size (Nat.le_of_lt (lt_alloc w1 _))) ?_; intro v2 w2 ho2 hb2 hg2; rw [List.length_singleton] at ho2; have hbx2 := (hbx1.alloc hbx1.size (.cells #[.string c.row, .string c.col, .int .i64 c.time, .bool c.gone, .string c.val] 53)).trans hb2; have hzx2 := hbx2.size; obtain ⟨ao2, cap2, hv2⟩ := ownsC_shape ho2; subst hv2)
        | (have k9 := hN1; refine step_append_rdC ho1 k9 Try.underlying22 Try.info53 rfl (by rfl) (by rfl) (by rfl) (by rfl) hl2 (by decide) (by exact hbx1.size) ?_; intro v2 w2 ho2 hb2 hg2; rw [List.length_singleton] at ho2; have hbx2 := hbx1.trans hb2; have hzx2 := hbx2.size; obtain ⟨ao2, cap2, hv2⟩ := ownsC_shape ho2; subst hv2)
        | (refine step_append_rdC (cs := []) (World.ownsRow_nil _ wx.heap.size _ _) (by exact HV1.out) Try.underlying22 Try.info53 rfl (by rfl) (by rfl) (by rfl) (by rfl) hl1 (by decide) (by exact Nat.le_refl _) ?_; intro v1 w1 ho1 hb1 hg1; rw [Nat.zero_add, List.nil_append] at ho1; have hbx1 : Below wx.heap.size wx w1 := Below.trans (by go_grown) hb1; have hzx1 := hbx1.size; obtain ⟨ao1, cap1, hv1⟩ := ownsC_shape ho1; subst hv1)
        | (refine step_append_rdC (cs := []) (World.ownsRow_nil _ wx.heap.size _ _) (by exact HV1.out.alloc _) Try.underlying22 Try.info53 rfl (by rfl) (by rfl) (by rfl) (by rfl) hl1 (by decide) (by exact Nat.le_of_lt (lt_alloc wx _)) ?_; intro v1 w1 ho1 hb1 hg1; rw [Nat.zero_add, List.nil_append] at ho1; have hbx1 : Below wx.heap.size wx w1 := Below.trans (by go_grown) hb1; have hzx1 := hbx1.size; have hN1 : RdC w1 (.slice (some ⟨wx.heap.size, 0, none⟩) 1 1) [c] := RdC.grownNone (w := (wx.alloc (.cells #[.string c.row, .string c.col, .int .i64 c.time, .bool c.gone, .string c.val] 53)).drew) (show RdC (wx.alloc (.cells #[.string c.row, .string c.col, .int .i64 c.time, .bool c.gone, .string c.val] 53)) _ _ from RdC.new wx c _) hg1; obtain ⟨ao1, cap1, hv1⟩ := ownsC_shape ho1; subst hv1))
      all_goals
        have hr3 := RdC.ofOwns ho3
        go_wp2_with fail
        go_ret
        exact ⟨_, rfl, by rw [HE.out]; simpa using hr3, hbw0.trans (hbx3.mono hzx)⟩

end Go.Proofs.Ytlebbkbbmgmmjac
