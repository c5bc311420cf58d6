/-
  The walks over cell.appendCell and cell.Write.
-/
import Derived.Test.YtlebbkbbmgmmjabWritesMath
import Derived.Test.YtlebbkbbmgmmjabCodeW3
namespace Go.Proofs.Ytlebbkbbmgmmjab
open Go.RowKit

theorem Bk.ext {w w' : World} {B : Nat} {t : TypeId} {xs : Array Value} {v v' : Value} (h : Bk w B t xs) (he : Ext w w' v v') (hne : v.ownBlock ≠ some B) : Bk w' B t xs := by
  unfold Bk
  rw [he.block h.lt hne]
  exact h

theorem AppendStr_any (v : Value) (xs : List UInt8) (s : ByteArray) (base : Nat) (w : World) (hown : w.ownsRow base 5 1 v xs.length (bc xs)) (hb : base ≤ w.heap.size)
    (ht : s.data.toList.length ≤ 1000000000) (hx : xs.length ≤ 1000000000) :
    Calls Try.prog 80 #[v, .string s] w fun e w' => ∃ v', e = .returned v' ∧ w'.ownsRow base 5 1 v' (xs ++ txB s).length (bc (xs ++ txB s)) ∧ Below base w w' ∧ Ext w w' v v' := by
  have h := AppendText_any v xs s.data.toList base w hown hb ht hx
  rw [ba_data] at h
  exact h

set_option maxRecDepth 100000 in
set_option maxHeartbeats 1000000 in
theorem appendCell_any (v : Value) (xs : List UInt8) (c : Cl) (base : Nat) (w : World) (hown : w.ownsRow base 5 1 v xs.length (bc xs)) (hb : base ≤ w.heap.size)
    (hc : codeC c = 0) (hx : xs.length ≤ 100000000) :
    Calls Try.prog 62 #[v, cA c] w fun e w' => ∃ v', e = .returned v' ∧ w'.ownsRow base 5 1 v' (xs ++ cellB c).length (bc (xs ++ cellB c)) ∧ Below base w w' ∧ Ext w w' v v' := by
  obtain ⟨_, h1, h2, h3, h4, h5⟩ := codeC_parts hc
  have hcl := cellB_len hc
  have hlt := hown.lt
  have hne0 : ∀ B, w.heap.size ≤ B → v.ownBlock ≠ some B := fun B hB e => by have := (hlt B e).2; omega
  obtain ⟨m, hm⟩ := Int.eq_ofNat_of_zero_le h4
  have HM : Hid (c.time.toNat = m) := hide (by rw [hm]; simp)
  have HMT := hide hm
  have hm9 : (m : Int) ≤ 1000000000 := by omega
  clear hm
  have hgn : c.gone = true ∧ goneN c = 1 ∨ c.gone = false ∧ goneN c = 0 := by unfold goneN; cases c.gone <;> simp
  unfold cA
  have hB0 : Bk (w.alloc (.cells #[.string c.row, .string c.col, .int .i64 c.time, .bool c.gone, .string c.val] 52)) w.heap.size 52 (ca c) := Bk.new _ _ _
  have ho0 := hown.alloc (.cells #[.string c.row, .string c.col, .int .i64 c.time, .bool c.gone, .string c.val] 52)
  have he0 : Ext w (w.alloc (.cells #[.string c.row, .string c.col, .int .i64 c.time, .bool c.gone, .string c.val] 52)) v v := Ext.alloc _ _ _
  have hs0 : (w.alloc (.cells #[.string c.row, .string c.col, .int .i64 c.time, .bool c.gone, .string c.val] 52)).heap.size = w.heap.size + 1 := by simp
  have HCL : Hid ((xs ++ cellB c).length ≤ 200000000) := hide (by rw [List.length_append]; omega)
  have hee : cellB c = txB c.row ++ (txB c.col ++ (encN c.time.toNat ++ (encN (goneN c) ++ txB c.val))) := rfl
  have HEE := hide hee
  have hl1 : (txB c.row).length ≤ 330 := by rw [hee] at hcl; simp only [List.length_append] at hcl; omega
  have hl2 : (txB c.col).length ≤ 330 := by rw [hee] at hcl; simp only [List.length_append] at hcl; omega
  have hl3 : (encN c.time.toNat).length ≤ 330 := by rw [hee] at hcl; simp only [List.length_append] at hcl; omega
  have hl4 : (encN (goneN c)).length ≤ 330 := by rw [hee] at hcl; simp only [List.length_append] at hcl; omega
  clear hee hcl
  have hbel : ∀ w' v', Ext w w' v v' → Below base w w' := fun w' v' h => h.below hb (fun k hk => (hlt k hk).1)
  go_enter Try.func62, Try.ntmps62
  go_wp2_with fail
  refine (AppendStr_any _ xs c.row base _ ho0 (by rw [hs0]; omega) (by omega) (by omega)).mono ?_
  rintro e w1 ⟨v1, rfl, ho1, hb1, he1⟩
  have hB1 := hB0.ext he1 (hne0 _ (Nat.le_refl _))
  have hn1 := he1.apart hB0.lt (hne0 _ (Nat.le_refl _))
  have hw1 := he0.trans he1
  clear hB0 ho0 he0 hb1
  obtain ⟨c0, c1, c2, c3, c4⟩ := hB1.facts
  go_wp2_with fail
  refine (AppendStr_any _ _ c.col base _ ho1 (by have := hw1.size; omega) (by omega) (by simp only [List.length_append]; omega)).mono ?_
  rintro e w2 ⟨v2, rfl, ho2, hb2, he2⟩
  have hB2 := hB1.ext he2 hn1
  have hn2 := he2.apart hB1.lt hn1
  have hw2 := hw1.trans he2
  clear hB1 ho1 hw1 hb2 hn1 c0 c1 c2 c3 c4
  obtain ⟨c0, c1, c2, c3, c4⟩ := hB2.facts
  go_wp2_with fail
  rw [HMT.out]
  refine (AppendNum_any _ _ m base _ ho2 (by have := hw2.size; omega) (by omega) (by simp only [List.length_append]; omega)).mono ?_
  rintro e w3 ⟨v3, rfl, ho3, hb3, he3⟩
  have hB3 := hB2.ext he3 hn2
  have hn3 := he3.apart hB2.lt hn2
  have hw3 := hw2.trans he3
  rw [← HM.out] at ho3
  clear hB2 ho2 hw2 hb3 hn2 c0 c1 c2 c3 c4
  obtain ⟨c0, c1, c2, c3, c4⟩ := hB3.facts
  rcases hgn with ⟨hg, hgn⟩ | ⟨hg, hgn⟩
  · rw [hg] at c3
    have HGN := hide hgn
    clear hgn
    go_wp2_with fail
    refine (AppendNum_any _ _ 1 base _ ho3 (by have := hw3.size; omega) (by omega) (by simp only [List.length_append]; omega)).mono ?_
    rintro e w4 ⟨v4, rfl, ho4, hb4, he4⟩
    have hB4 := hB3.ext he4 hn3
    have hw4 := hw3.trans he4
    rw [show encN 1 = encN (goneN c) by rw [HGN.out]] at ho4
    clear hB3 ho3 hw3 hb4 hn3 c0 c1 c2 c3 c4
    obtain ⟨c0, c1, c2, c3, c4⟩ := hB4.facts
    go_wp2_with fail
    refine (AppendStr_any _ _ c.val base _ ho4 (by have := hw4.size; omega) (by omega) (by simp only [List.length_append]; omega)).mono ?_
    rintro e w5 ⟨v5, rfl, ho5, hb5, he5⟩
    have hw5 := hw4.trans he5
    go_wp2_with fail
    go_ret
    refine ⟨v5, rfl, ?_, hbel _ _ hw5, hw5⟩
    rw [HEE.out]
    simpa only [List.append_assoc] using ho5
  · rw [hg] at c3
    have HGN := hide hgn
    clear hgn
    go_wp2_with fail
    refine (AppendNum_any _ _ 0 base _ ho3 (by have := hw3.size; omega) (by omega) (by simp only [List.length_append]; omega)).mono ?_
    rintro e w4 ⟨v4, rfl, ho4, hb4, he4⟩
    have hB4 := hB3.ext he4 hn3
    have hw4 := hw3.trans he4
    rw [show encN 0 = encN (goneN c) by rw [HGN.out]] at ho4
    clear hB3 ho3 hw3 hb4 hn3 c0 c1 c2 c3 c4
    obtain ⟨c0, c1, c2, c3, c4⟩ := hB4.facts
    go_wp2_with fail
    refine (AppendStr_any _ _ c.val base _ ho4 (by have := hw4.size; omega) (by omega) (by simp only [List.length_append]; omega)).mono ?_
    rintro e w5 ⟨v5, rfl, ho5, hb5, he5⟩
    have hw5 := hw4.trans he5
    go_wp2_with fail
    go_ret
    refine ⟨v5, rfl, ?_, hbel _ _ hw5, hw5⟩
    rw [HEE.out]
    simpa only [List.append_assoc] using ho5

set_option maxRecDepth 100000 in
set_option maxHeartbeats 1000000 in
theorem CWrite_any (v : Value) (cs : List Cl) (w : World) (hv : RdC w v cs) :
    Calls Try.prog 37 #[v] w fun e w' => ∃ v', e = .returned (.tuple #[v', fltC (writeCR cs).2]) ∧ Rd w' v' (bc (writeCR cs).1) ∧ Below w.heap.size w w' ∧ New w.heap.size v' := by
  obtain ⟨ao, cap, hvv, hc1, hc2, hat⟩ := hv.at
  subst hvv
  unfold maxLen at hc2
  go_enter Try.func37, Try.ntmps37
  go_wp2_with fail
  have hR0 := Bk.new w 29 #[.int .i64 0, .int .i64 0]
  refine (CCheck_any _ cs _ (hv.alloc _)).mono ?_
  rintro e w1 ⟨rfl, hb1⟩
  have hR1 := hR0.below hb1 (by simp)
  have hbw1 : Below w.heap.size w w1 := (below_alloc' _ _).trans (hb1.mono (by simp))
  have hsz1 := hR1.lt
  clear hb1 hR0
  have r0 := hR1.cell 0
  have r1 := hR1.cell 1
  have r2 := hR1.frozen 0
  have r3 := hR1.frozen 1
  simp at r0 r1
  by_cases hc : (checkC cs).1 = 0
  · have hcz := checkC_zero hc
    have HE := hide (@writeCR_go cs hc)
    have HC : Hid (∀ c ∈ cs, codeC c = 0) := hide (fun c h => fine_code hc h)
    rw [hcz]
    unfold fltC
    clear hcz hc
    have hRA : Bk (w1.alloc (.cells #[.int .i64 0, .int .i64 0] 29)) w.heap.size 29 #[.int .i64 0, .int .i64 0] := hR1.below (below_alloc' _ _) hsz1
    have hbwA : Below w.heap.size w (w1.alloc (.cells #[.int .i64 0, .int .i64 0] 29)) := hbw1.trans ((below_alloc' _ _).mono (by omega))
    have hszA : (w1.alloc (.cells #[.int .i64 0, .int .i64 0] 29)).heap.size = w1.heap.size + 1 := by simp
    go_wp2_with fail
    go_loopw [5, 16] (fun o i wr => ∃ (k : Nat) (acc : List UInt8), k ≤ cs.length ∧ i = .int .i64 k ∧ wrGo (cs.drop k) acc = wrGo cs [] ∧ acc.length ≤ 60000 ∧ wr.ownsRow (w1.heap.size + 1) 5 1 o acc.length (bc acc) ∧ Below (w1.heap.size + 1) (w1.alloc (.cells #[.int .i64 0, .int .i64 0] 29)) wr)
      (fun _ i _ => cs.length - (intOf i).toNat)
    case atStart => exact ⟨0, [], by omega, rfl, rfl, by simp, World.ownsRow_nil _ _ _ _, Below.refl _ _⟩
    case round =>
      obtain ⟨k, acc, hk, rfl, hgo, hacc, hown, hbel⟩ := hrel
      have HG := hide hgo
      clear hgo
      have hbw : Below w.heap.size w wr := hbwA.trans (hbel.mono (by omega))
      have hRr := hRA.below hbel (by omega)
      have hszr : w1.heap.size + 1 ≤ wr.heap.size := by have := hbel.size; omega
      by_cases hlt : k < cs.length
      · obtain ⟨bb, off, rfl, hb, hcl⟩ := hat k hlt
        have hck := (hcl k hlt).below hbw
        have hcc := HC.out cs[k] (List.getElem_mem hlt)
        have hdr := drop_consC hlt
        generalize cs[k] = c at *
        rw [hdr] at HG
        obtain ⟨c0, c1, c2, c3, c4⟩ := hck
        clear hcl hat hdr hR1 r0 r1 r2 r3
        go_wp2_with fail
        refine (appendCell_any _ acc c (w1.heap.size + 1) _ (hown.alloc _) (by simp; omega) hcc (by omega)).mono ?_
        rintro e w2 ⟨v2, rfl, ho2, hb2, _⟩
        have hbel2 : Below (w1.heap.size + 1) (w1.alloc (.cells #[.int .i64 0, .int .i64 0] 29)) w2 := (hbel.alloc hszr _).trans hb2
        have hR2 := hRA.below hbel2 (by omega)
        have hbw2 : Below w.heap.size w w2 := hbwA.trans (hbel2.mono (by omega))
        have hmu := @wrGo_much (cs.drop (k + 1)) acc c
        have hst := @wrGo_step (cs.drop (k + 1)) acc c
        generalize acc ++ cellB c = Y at *
        have HMU := hide hmu
        have HST := hide hst
        clear hmu hst
        obtain ⟨ao2, cap2, hv2⟩ := owns_shape ho2
        subst hv2
        have r0 := hR2.cell 0
        have r1 := hR2.cell 1
        have r2 := hR2.frozen 0
        have r3 := hR2.frozen 1
        have hsr := hR2.lt
        simp at r0 r1
        clear hb2 hbel hRr hbw hown c0 c1 c2 c3 c4
        by_cases hm : 60000 < Y.length
        · have HM := hide (HMU.out hm)
          have hm' : (60000 : Int) < (Y.length : Int) := by omega
          clear hm
          go_wp2_with fail
          exact bodyPost_ret (v := .tuple #[.slice none 0 0, fltC (9, 0)]) (by simp [results, Try.results37, go_sem, fltC, r0, r1]) rfl ⟨_, by rw [HE.out, ← HG.out, HM.out], by rw [HE.out, ← HG.out, HM.out]; exact Rd.nil _, by go_grown, New.nil _⟩
        · have HM := hide (HST.out hm)
          have hm' : (Y.length : Int) ≤ 60000 := by omega
          go_wp2_with fail
          go_roundw
          case rel => exact ⟨k + 1, Y, by omega, by go_num, by rw [← HG.out, HM.out], by omega, ho2, hbel2⟩
          case measure => simp [intOf]; omega
      · rw [List.drop_eq_nil_of_le (by omega)] at HG
        clear hR1 r0 r1 r2 r3
        have r0 := hRr.cell 0
        have r1 := hRr.cell 1
        have r2 := hRr.frozen 0
        have r3 := hRr.frozen 1
        have hsr := hRr.lt
        simp at r0 r1
        obtain ⟨ao2, cap2, hv2⟩ := owns_shape hown
        subst hv2
        go_wp2_with fail
        exact bodyPost_ret (v := .tuple #[.slice ao2 acc.length cap2, fltC (0, 0)]) (by simp [results, Try.results37, go_sem, fltC, r0, r1]) rfl ⟨_, by rw [HE.out, ← HG.out]; rfl, by rw [HE.out, ← HG.out]; exact Rd.ofOwns (ownsRow_setCell_below (ownsRow_setCell_below hown (by simp only; omega) _) (by simp only; omega) _), by go_grown, (New.owns hown).mono (by omega)⟩
  · have HE := hide (@writeCR_bad cs hc)
    have hcb : ((checkC cs).1 == 0) = false := beq_eq_false_iff_ne.2 hc
    have hcb2 : ((checkC cs).1 != 0) = true := by simp [hc]
    clear hc hat
    generalize checkC cs = r at *
    obtain ⟨x, y⟩ := r
    simp only at hcb hcb2
    unfold fltC
    go_wp2_with fail
    go_region
    all_goals
      go_wp2_with fail
      exact bodyPost_ret (v := .tuple #[.slice none 0 0, fltC (x, y)]) (by simp [results, Try.results37, go_sem, fltC, r0, r1, hsz1]) rfl ⟨_, by rw [HE.out], by rw [HE.out]; exact Rd.nil _, by go_grown, New.nil _⟩

end Go.Proofs.Ytlebbkbbmgmmjab
