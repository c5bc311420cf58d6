/-
  The walk over parts.Join.
-/
import Derived.Test.YtahgddbladfemaePartW6
namespace Go.Proofs.Ytahgddbladfemae
open Go.RowKit
set_option linter.unusedVariables false

set_option maxRecDepth 100000 in
set_option maxHeartbeats 4000000 in
theorem Join_any (v : Value) (l : List Pt) (at_ id : Int) (w : World) (hv : RdG pE w v l) (hwf : WfP l) :
    Calls Try.prog 8 #[v, .int .i64 at_, .int .i64 id] w fun e w' => ∃ v', e = .returned (.tuple #[v', flt (joinF l at_ id)]) ∧ RdG pE w' v' (joinR l at_ id) ∧ Below w.heap.size w w' ∧ New w.heap.size v' := by
  have HV := hide hv
  have HN := hide (numbered_any v l _ (hv.alloc (.cells #[.int .i64 0, .int .i64 0] 26)) hwf)
  obtain ⟨ao, cap, hvv, hc1, hc2⟩ := hv.shape
  subst hvv
  unfold maxLen at hc2
  have HEND : Hid (∀ (c a : Int), joinF l at_ id = (c, a) → c ≠ 0 → joinR l at_ id = []) := hide fun c a h h0 => by
    unfold joinR
    rw [h, if_neg h0]
  go_enter Try.func8, Try.ntmps8
  go_wp2_with fail
  refine HN.out.mono ?_
  rintro e w1 ⟨m, rfl, hb1, hm⟩
  rw [show (w.alloc (.cells #[.int .i64 0, .int .i64 0] 26)).heap.size + 1 = w.heap.size + 1 + 1 by simp] at hm
  have hF1 := (Blk.new w 26 #[.int .i64 0, .int .i64 0]).later hb1
  have hbw1 : Below w.heap.size w w1 := (below_allocG _ _).trans (hb1.mono (by simp))
  have hs1 : w.heap.size + 1 ≤ w1.heap.size := by have := hb1.size; simpa using this
  have HV1 := hide (HV.out.below hbw1)
  have f0 := hF1.cell 0
  have f1 := hF1.cell 1
  have g0 := hF1.frozen 0
  have g1 := hF1.frozen 1
  have hfl := hF1.lt
  simp at f0 f1
  clear hb1
  rcases hm with ⟨rfl, hne⟩ | ⟨rfl, hz, hM⟩
  · have HE : Hid (joinF l at_ id = chkP l) := hide (by unfold joinF; rw [if_pos hne])
    generalize chkP l = C at *
    obtain ⟨x, y⟩ := C
    have hne' : x ≠ 0 := hne
    have HL := hide (HEND.out x y HE.out hne')
    have hcb : (x == 0) = false := beq_eq_false_iff_ne.2 hne'
    have hcb2 : (x != 0) = true := by simp [hne']
    clear hne hne'
    unfold flt
    go_wp2_with fail
    go_region
    all_goals
      go_wp2_with fail
      exact bodyPost_ret (v := .tuple #[.slice none 0 0, flt (x, y)]) (by simp [results, Try.results8, go_sem, flt, f0, f1, hfl]) rfl ⟨_, by rw [HE.out], by rw [HL.out]; exact RdG.nil _, by go_grown, New.nil _⟩
  · have hfine := chkP_fine.1 hz
    have HFN := hide hfine
    rw [chkP_ok hfine]
    have HS : Hid (joinF l at_ id = if at_ < 0 ∨ (l.length : Int) - 1 ≤ at_ then (3, -1) else
        if numB id = false then (3, -3) else if hasID l at_.toNat 2 id = true then (10, -3) else (0, 0)) := hide (by unfold joinF; rw [if_neg (by rw [hz]; simp)])
    have hl200 := hfine.1
    have hlp : 1 ≤ l.length := by
      have := hfine.2.1.ne_nil
      cases l with
      | nil => exact absurd rfl this
      | cons => simp
    clear hfine hz
    unfold flt
    by_cases hr : at_ < 0 ∨ (l.length : Int) - 1 ≤ at_
    · have HE := hide (HS.out.trans (if_pos hr))
      have HL := hide (HEND.out _ _ HE.out (by decide))
      by_cases h0 : at_ < 0
      · have hd : decide (at_ < 0) = true := decide_eq_true h0
        go_wp2_with fail
        exact bodyPost_ret (v := .tuple #[.slice none 0 0, flt (3, -1)]) (by simp [results, Try.results8, go_sem, flt, f0, f1, hfl]) rfl ⟨_, by rw [HE.out], by rw [HL.out]; exact RdG.nil _, by go_grown, New.nil _⟩
      · have hd : decide (at_ < 0) = false := decide_eq_false h0
        have h1 : (l.length : Int) - 1 ≤ at_ := by omega
        go_wp2_with fail
        exact bodyPost_ret (v := .tuple #[.slice none 0 0, flt (3, -1)]) (by simp [results, Try.results8, go_sem, flt, f0, f1, hfl]) rfl ⟨_, by rw [HE.out], by rw [HL.out]; exact RdG.nil _, by go_grown, New.nil _⟩
    · have HS := hide (HS.out.trans (if_neg hr))
      obtain ⟨k, hk⟩ : ∃ k : Nat, at_ = k := ⟨at_.toNat, by omega⟩
      subst hk
      have hkl : k + 1 < l.length := by omega
      rw [Int.toNat_natCast] at HS
      have hd1 : decide ((k : Int) < 0) = false := decide_eq_false (by omega)
      have hd2 : ¬ (l.length : Int) - 1 ≤ (k : Int) := by omega
      have hk1 : (0 : Int) ≤ (k : Int) := by omega
      have hk2 : (k : Int) < (l.length : Int) := by omega
      have hk3 : (k : Int) + 1 < (l.length : Int) := by omega
      have hk4 : (0 : Int) ≤ (k : Int) + 1 := by omega
      obtain ⟨p, hp⟩ : ∃ p, l[k]? = some p := ⟨_, List.getElem?_eq_getElem (by omega)⟩
      obtain ⟨q, hq⟩ : ∃ p, l[k + 1]? = some p := ⟨_, List.getElem?_eq_getElem hkl⟩
      have hgd : l.getD k zeroPt = p := by rw [List.getD_eq_getElem?_getD, hp]; rfl
      have hgq : l.getD (k + 1) zeroPt = q := by rw [List.getD_eq_getElem?_getD, hq]; rfl
      obtain ⟨b, off, rfl, hb, hat⟩ := HV1.out.here hp
      obtain ⟨b2, off2, hbe, _, hat2⟩ := HV1.out.here hq
      simp only [Option.some.injEq, Addr.mk.injEq, and_true] at hbe
      obtain ⟨rfl, rfl⟩ := hbe
      have HGD := hide hgd
      have HGQ := hide hgq
      have HAT := hide hat
      have HAT2 := hide hat2
      have hI1 : Rd ((w1.alloc (.cells #[.int .i64 0, .int .i64 0] 26)).alloc (.cells #[.int .i64 id] 3)) (.slice (some ⟨w1.heap.size + 1, 0, none⟩) 1 1) (ic [id]) := by
        have := Rd.newL (w1.alloc (.cells #[.int .i64 0, .int .i64 0] 26)) #[.int .i64 id] 3 (by simp)
        simpa [ic] using this
      have hbB : Below w1.heap.size w1 ((w1.alloc (.cells #[.int .i64 0, .int .i64 0] 26)).alloc (.cells #[.int .i64 id] 3)) := by go_grown
      have HID := hide (idFault_any _ _ l k 2 ((k : Int) + 2) [id] _ (hM.later hbB) HFN.out hI1 rfl (by omega))
      have HBB := hide hbB
      clear hI1 hbB hr hp hq hat hat2 hgd hgq
      go_wp2_with fail
      refine HID.out.mono ?_
      rintro e w2 ⟨rfl, hb2⟩
      have hb12 : Below w1.heap.size w1 w2 := HBB.out.trans (hb2.mono (by simp; omega))
      have hF2 := hF1.later hb12
      have hV2 := HV1.out.below hb12
      have hbw2 := hbw1.trans (hb12.mono hbw1.size)
      have f0' := hF2.cell 0
      have f1' := hF2.cell 1
      have g0' := hF2.frozen 0
      have g1' := hF2.frozen 1
      simp at f0' f1'
      have hfl2 := hF2.lt
      obtain ⟨c0, c1, c2⟩ := (HAT.out.below hb12).part
      obtain ⟨d0, d1, d2⟩ := (HAT2.out.below hb12).part
      have hbl : b < w2.heap.size := (HAT.out.below hb12).lt
      clear f0 f1 g0 g1 hb2 hF1 hfl HBB
      have hidc : idF l k 2 [id] = if numB id = false then (3, -3) else if hasID l k 2 id = true then (10, -3) else (0, 0) := by
        unfold idF
        have e1 : ([id].any fun x => !numB x) = true ↔ numB id = false := by simp
        have e2 : idGo l k 2 [] [id] = true ↔ hasID l k 2 id = true := by
          simp only [idGo, List.any_nil, Bool.or_false]
        simp only [e1, e2]
      have HE : Hid (joinF l k id = idF l k 2 [id]) := hide (HS.out.trans hidc.symm)
      have hzz : (idF l k 2 [id]).1 = 0 → idF l k 2 [id] = (0, 0) := by
        intro h
        rw [hidc] at h ⊢
        split at h
        · cases h
        · split at h
          · cases h
          · rename_i h2 h3
            rw [if_neg h2, if_neg h3]
      clear hidc
      by_cases h2 : (idF l k 2 [id]).1 = 0
      · have h20 := hzz h2
        rw [h20] at HE ⊢
        clear h2 h20 hzz
        have HL : Hid (joinR l k id = l.take k ++ [⟨p.fr, q.to_, id⟩] ++ l.drop (k + 2)) := hide (by
          unfold joinR
          rw [HE.out, if_pos rfl, Int.toNat_natCast, joinL, HGD.out, HGQ.out])
        have hW : Below w2.heap.size w2 ((((w2.alloc (.cells #[.int .i64 0, .int .i64 0] 26)).alloc (.cells #[.string p.fr, .string q.to_, .int .i64 id] 34)).alloc (.cells #[.string p.fr, .string q.to_, .int .i64 id] 34)).drew) := by go_grown
        have hO : RdG pE ((((w2.alloc (.cells #[.int .i64 0, .int .i64 0] 26)).alloc (.cells #[.string p.fr, .string q.to_, .int .i64 id] 34)).alloc (.cells #[.string p.fr, .string q.to_, .int .i64 id] 34)).drew) (.slice (some ⟨w2.heap.size + 1 + 1, 0, none⟩) 1 1) [⟨p.fr, q.to_, id⟩] := by
          have := RdG.newL (E := pE) ((w2.alloc (.cells #[.int .i64 0, .int .i64 0] 26)).alloc (.cells #[.string p.fr, .string q.to_, .int .i64 id] 34)) [⟨p.fr, q.to_, id⟩] 34 #[.string p.fr, .string q.to_, .int .i64 id] rfl (by simp)
          exact RdG.drew (by simpa using this)
        have HRP := hide (replaced_any _ _ l _ k (k + 2) (k : Int) ((k : Int) + 2) _ (hV2.below hW) hO rfl (by omega) (by omega) (by omega) (by omega) (by simp))
        have HW := hide hW
        clear hW hO
        unfold flt
        go_wp2_with fail
        go_region
        go_wp2_with fail
        refine HRP.out.mono ?_
        rintro e w4 ⟨v4, rfl, hr4, hb4, hn4⟩
        have hb24 : Below w2.heap.size w2 w4 := HW.out.trans (hb4.mono (by simp; omega))
        have hF4 := hF2.later hb24
        have hbw4 := hbw2.trans (hb24.mono hbw2.size)
        have q0 := hF4.cell 0
        have q1 := hF4.cell 1
        have r0 := hF4.frozen 0
        have r1 := hF4.frozen 1
        have hfl4 := hF4.lt
        have hn5 : New w2.heap.size v4 := hn4.mono (by simp; omega)
        simp at q0 q1
        obtain ⟨vo, vc, hvo, _, _⟩ := hr4.shape
        generalize (l.take k ++ [⟨p.fr, q.to_, id⟩] ++ l.drop (k + 2) : List Pt) = LL at *
        subst hvo
        clear hb4 hn4 f0' f1' g0' g1' hF2 c0 c1 c2 d0 d1 d2
        go_wp2_with fail
        exact bodyPost_ret (v := .tuple #[.slice vo LL.length vc, flt (0, 0)]) (by simp [results, Try.results8, go_sem, flt, q0, q1]) rfl ⟨_, by rw [HE.out], by rw [HL.out]; exact hr4.store2 hn5 (by omega) _ _, by go_grown, hn5.mono (by omega)⟩
      · generalize idF l k 2 [id] = C at *
        obtain ⟨x, y⟩ := C
        have hne' : x ≠ 0 := h2
        have HL := hide (HEND.out x y HE.out hne')
        have hcb : (x == 0) = false := beq_eq_false_iff_ne.2 hne'
        have hcb2 : (x != 0) = true := by simp [hne']
        clear hne' h2 hzz
        unfold flt
        go_wp2_with fail
        go_region
        all_goals
          go_wp2_with fail
          exact bodyPost_ret (v := .tuple #[.slice none 0 0, flt (x, y)]) (by simp [results, Try.results8, go_sem, flt, f0', f1', hfl2]) rfl ⟨_, by rw [HE.out], by rw [HL.out]; exact RdG.nil _, by go_grown, New.nil _⟩

end Go.Proofs.Ytahgddbladfemae
