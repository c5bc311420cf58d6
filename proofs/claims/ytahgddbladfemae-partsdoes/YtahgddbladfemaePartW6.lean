/-
  The walks over parts.Check, Split and Join.
-/
import Derived.Test.YtahgddbladfemaePartW5
namespace Go.Proofs.Ytahgddbladfemae
open Go.RowKit
set_option linter.unusedVariables false

set_option maxRecDepth 100000 in
set_option maxHeartbeats 1000000 in
theorem PCheck_any (v : Value) (l : List Pt) (w : World) (hv : RdG pE w v l) (hwf : WfP l) :
    Calls Try.prog 6 #[v] w fun e w' => e = .returned (flt (chkP l)) ∧ Below w.heap.size w w' := by
  have HN := hide (numbered_any v l _ (hv.alloc (.cells #[.int .i64 0, .int .i64 0] 26)) hwf)
  obtain ⟨ao, cap, hvv, hc1, hc2⟩ := hv.shape
  subst hvv
  go_enter Try.func6, Try.ntmps6
  go_wp2_with fail
  refine HN.out.mono ?_
  rintro e w1 ⟨m, rfl, hb1, _⟩
  have hF1 := (Blk.new w 26 #[.int .i64 0, .int .i64 0]).later hb1
  have hbw1 : Below w.heap.size w w1 := (below_allocG _ _).trans (hb1.mono (by simp))
  have f0 := hF1.cell 0
  have f1 := hF1.cell 1
  have g0 := hF1.frozen 0
  have g1 := hF1.frozen 1
  have hfl := hF1.lt
  simp at f0 f1
  generalize hC : chkP l = C at *
  have HC := hide hC
  clear hC
  obtain ⟨x, y⟩ := C
  unfold flt
  go_wp2_with fail
  all_goals
    exact bodyPost_ret (v := flt (x, y)) (by simp [results, Try.results6, go_sem, flt, f0, f1, hfl]) rfl ⟨by rw [HC.out], by go_grown⟩

/-- What a split leaves. -/
def splitR (l : List Pt) (at_ : Int) (row : ByteArray) (left right : Int) : List Pt := if (splitF l at_ row left right).1 = 0 then splitL l at_.toNat row left right else []

def joinR (l : List Pt) (at_ id : Int) : List Pt := if (joinF l at_ id).1 = 0 then joinL l at_.toNat id else []

theorem RdG.store2 {w : World} {v : Value} {cs : List Pt} {B F : Nat} (h : RdG pE w v cs) (hn : New B v) (hF : F < B) (x y : Value) : RdG pE ((w.setCell ⟨F, 0, none⟩ x).setCell ⟨F, 1, none⟩ y) v cs :=
  (h.setNew hn (p := ⟨F, 0, none⟩) hF x).setNew hn (p := ⟨F, 1, none⟩) hF y

set_option maxRecDepth 100000 in
set_option maxHeartbeats 4000000 in
theorem Split_any (v : Value) (l : List Pt) (at_ : Int) (row : ByteArray) (left right : Int) (w : World) (hv : RdG pE w v l) (hwf : WfP l) :
    Calls Try.prog 7 #[v, .int .i64 at_, .string row, .int .i64 left, .int .i64 right] w fun e w' => ∃ v', e = .returned (.tuple #[v', flt (splitF l at_ row left right)]) ∧ RdG pE w' v' (splitR l at_ row left right) ∧ Below w.heap.size w w' ∧ New w.heap.size v' := by
  have HV := hide hv
  have HN := hide (numbered_any v l _ (hv.alloc (.cells #[.int .i64 0, .int .i64 0] 26)) hwf)
  obtain ⟨ao, cap, hvv, hc1, hc2⟩ := hv.shape
  subst hvv
  unfold maxLen at hc2
  have HEND : Hid (∀ (c a : Int), splitF l at_ row left right = (c, a) → c ≠ 0 → splitR l at_ row left right = []) := hide fun c a h h0 => by
    unfold splitR
    rw [h, if_neg h0]
  go_enter Try.func7, Try.ntmps7
  go_wp2_with fail
  refine HN.out.mono ?_
  rintro e w1 ⟨m, rfl, hb1, hm⟩
  rw [show (w.alloc (.cells #[.int .i64 0, .int .i64 0] 26)).heap.size + 1 = w.heap.size + 1 + 1 by simp] at hm
  have hF1 := (Blk.new w 26 #[.int .i64 0, .int .i64 0]).later hb1
  have hbw1 : Below w.heap.size w w1 := (below_allocG _ _).trans (hb1.mono (by simp))
  have hs1 : w.heap.size + 1 ≤ w1.heap.size := by have := hb1.size; simpa using this
  have HV1 := hide (HV.out.below hbw1)
  have f0 := hF1.cell 0
  have f1 := hF1.cell 1
  have g0 := hF1.frozen 0
  have g1 := hF1.frozen 1
  have hfl := hF1.lt
  simp at f0 f1
  clear hb1
  rcases hm with ⟨rfl, hne⟩ | ⟨rfl, hz, hM⟩
  · have HE : Hid (splitF l at_ row left right = chkP l) := hide (by unfold splitF; rw [if_pos hne])
    generalize chkP l = C at *
    obtain ⟨x, y⟩ := C
    have hne' : x ≠ 0 := hne
    have HL := hide (HEND.out x y HE.out hne')
    have hcb : (x == 0) = false := beq_eq_false_iff_ne.2 hne'
    have hcb2 : (x != 0) = true := by simp [hne']
    clear hne hne'
    unfold flt
    go_wp2_with fail
    go_region
    all_goals
      go_wp2_with fail
      exact bodyPost_ret (v := .tuple #[.slice none 0 0, flt (x, y)]) (by simp [results, Try.results7, go_sem, flt, f0, f1, hfl]) rfl ⟨_, by rw [HE.out], by rw [HL.out]; exact RdG.nil _, by go_grown, New.nil _⟩
  · have hfine := chkP_fine.1 hz
    have HFN := hide hfine
    rw [chkP_ok hfine]
    have HS : Hid (splitF l at_ row left right = if at_ < 0 ∨ (l.length : Int) ≤ at_ then (3, -1) else
        if 40 < row.size then (8, -2)
        else if row.toList = (l.getD at_.toNat zeroPt).fr.toList ∨ inB row (l.getD at_.toNat zeroPt).fr (l.getD at_.toNat zeroPt).to_ = false then (5, -2)
        else if numB left = false ∨ numB right = false then (3, -3)
        else if left = right ∨ hasID l at_.toNat 1 left = true ∨ hasID l at_.toNat 1 right = true then (10, -3)
        else if l.length = 200 then (2, -1)
        else (0, 0)) := hide (by unfold splitF; rw [if_neg (by rw [hz]; simp)])
    have hl200 := hfine.1
    clear hfine hz
    unfold flt
    by_cases hr : at_ < 0 ∨ (l.length : Int) ≤ at_
    · have HE := hide (HS.out.trans (if_pos hr))
      have HL := hide (HEND.out _ _ HE.out (by decide))
      by_cases h0 : at_ < 0
      · have hd : decide (at_ < 0) = true := decide_eq_true h0
        go_wp2_with fail
        exact bodyPost_ret (v := .tuple #[.slice none 0 0, flt (3, -1)]) (by simp [results, Try.results7, go_sem, flt, f0, f1, hfl]) rfl ⟨_, by rw [HE.out], by rw [HL.out]; exact RdG.nil _, by go_grown, New.nil _⟩
      · have hd : decide (at_ < 0) = false := decide_eq_false h0
        have h1 : (l.length : Int) ≤ at_ := by omega
        go_wp2_with fail
        exact bodyPost_ret (v := .tuple #[.slice none 0 0, flt (3, -1)]) (by simp [results, Try.results7, go_sem, flt, f0, f1, hfl]) rfl ⟨_, by rw [HE.out], by rw [HL.out]; exact RdG.nil _, by go_grown, New.nil _⟩
    · have HS := hide (HS.out.trans (if_neg hr))
      obtain ⟨k, hk⟩ : ∃ k : Nat, at_ = k := ⟨at_.toNat, by omega⟩
      subst hk
      have hkl : k < l.length := by omega
      rw [Int.toNat_natCast] at HS
      have hd1 : decide ((k : Int) < 0) = false := decide_eq_false (by omega)
      have hd2 : ¬ (l.length : Int) ≤ (k : Int) := by omega
      have hk1 : (0 : Int) ≤ (k : Int) := by omega
      have hk2 : (k : Int) < (l.length : Int) := by omega
      obtain ⟨p, hp⟩ : ∃ p, l[k]? = some p := ⟨_, List.getElem?_eq_getElem hkl⟩
      have hgd : l.getD k zeroPt = p := by rw [List.getD_eq_getElem?_getD, hp]; rfl
      obtain ⟨b, off, rfl, hb, hat⟩ := HV1.out.here hp
      rw [hgd] at HS
      have HGD := hide hgd
      have hb' : b < w1.heap.size := hb
      obtain ⟨c0, c1, c2⟩ := hat.part
      clear hr hp hat hgd
      have hP1 : Blk ((w1.alloc (.cells #[.int .i64 0, .int .i64 0] 26)).alloc (.cells #[.string p.fr, .string p.to_, .int .i64 p.id] 34)) (w1.heap.size + 1) 34 #[.string p.fr, .string p.to_, .int .i64 p.id] := by
        have := Blk.new (w1.alloc (.cells #[.int .i64 0, .int .i64 0] 26)) 34 #[.string p.fr, .string p.to_, .int .i64 p.id]
        simpa using this
      have hbA : Below w1.heap.size w1 ((w1.alloc (.cells #[.int .i64 0, .int .i64 0] 26)).alloc (.cells #[.string p.fr, .string p.to_, .int .i64 p.id] 34)) := by go_grown
      have HPA := hide hP1
      have HBA := hide hbA
      clear hP1 hbA
      go_wp2_with fail
      refine (rowFault_any p row _).mono ?_
      rintro e w2 ⟨rfl, hb2⟩
      have hb12 : Below w1.heap.size w1 w2 := HBA.out.trans (hb2.mono (by simp; omega))
      have hF2 := hF1.later hb12
      have hP2 := HPA.out.later hb2
      have hM2 := hM.later hb12
      have hV2 := HV1.out.below hb12
      have hbw2 := hbw1.trans (hb12.mono hbw1.size)
      have hz2 : w1.heap.size + 1 < w2.heap.size := hP2.lt
      have f0' := hF2.cell 0
      have f1' := hF2.cell 1
      have g0' := hF2.frozen 0
      have g1' := hF2.frozen 1
      have p0 := hP2.cell 0
      have p1 := hP2.cell 1
      simp at f0' f1' p0 p1
      have hfl2 := hF2.lt
      clear c0 c1 c2 f0 f1 g0 g1 hb2 hF1 hfl HPA HBA
      by_cases h1 : rowF p row = (0, 0)
      · rw [h1]
        have h11 : ¬ 40 < row.size := by
          intro h; rw [rowF, if_pos h] at h1; cases h1
        have h12 : ¬ (row.toList = p.fr.toList ∨ inB row p.fr p.to_ = false) := by
          intro h; rw [rowF, if_neg h11, if_pos h] at h1; cases h1
        have HS := hide (HS.out.trans ((if_neg h11).trans (if_neg h12)))
        clear h1 h11 h12
        have hI3 : Rd ((w2.alloc (.cells #[.int .i64 0, .int .i64 0] 26)).alloc (.cells #[.int .i64 left, .int .i64 right] 3)) (.slice (some ⟨w2.heap.size + 1, 0, none⟩) 2 2) (ic [left, right]) := by
          have := Rd.newL (w2.alloc (.cells #[.int .i64 0, .int .i64 0] 26)) #[.int .i64 left, .int .i64 right] 3 (by simp)
          simpa [ic] using this
        have hbB : Below w2.heap.size w2 ((w2.alloc (.cells #[.int .i64 0, .int .i64 0] 26)).alloc (.cells #[.int .i64 left, .int .i64 right] 3)) := by go_grown
        have HID := hide (idFault_any _ _ l k 1 ((k : Int) + 1) [left, right] _ (hM2.later hbB) HFN.out hI3 rfl (by omega))
        have HBB := hide hbB
        clear hI3 hbB
        unfold flt
        go_wp2_with fail
        refine HID.out.mono ?_
        rintro e w3 ⟨rfl, hb3⟩
        have hb23 : Below w2.heap.size w2 w3 := HBB.out.trans (hb3.mono (by simp; omega))
        have hF3 := hF2.later hb23
        have hP3 := hP2.later hb23
        have hV3 := hV2.below hb23
        have hbw3 := hbw2.trans (hb23.mono hbw2.size)
        have hz3 : w2.heap.size + 1 < w3.heap.size := by have := hb3.size; simp at this; omega
        have f0'' := hF3.cell 0
        have f1'' := hF3.cell 1
        have g0'' := hF3.frozen 0
        have g1'' := hF3.frozen 1
        have p0' := hP3.cell 0
        have p1' := hP3.cell 1
        simp at f0'' f1'' p0' p1'
        have hfl3 := hF3.lt
        have hpl3 := hP3.lt
        have hpl4 : w1.heap.size < w3.heap.size := by omega
        have hpl5 : w1.heap.size < w3.heap.size + 1 := by omega
        clear f0' f1' g0' g1' p0 p1 hb3 hF2 hP2 hfl2 HBB
        have hidc : idF l k 1 [left, right] = if numB left = false ∨ numB right = false then (3, -3) else if left = right ∨ hasID l k 1 left = true ∨ hasID l k 1 right = true then (10, -3) else (0, 0) := by
          unfold idF
          have e1 : ([left, right].any fun x => !numB x) = true ↔ numB left = false ∨ numB right = false := by simp
          have e2 : idGo l k 1 [] [left, right] = true ↔ left = right ∨ hasID l k 1 left = true ∨ hasID l k 1 right = true := by
            simp only [idGo, List.any_nil, List.nil_append, List.any_cons, Bool.or_false, Bool.or_eq_true, beq_iff_eq]
            constructor
            · rintro (h | h | h)
              · exact .inr (.inl h)
              · exact .inr (.inr h)
              · exact .inl h.symm
            · rintro (h | h | h)
              · exact .inr (.inr h.symm)
              · exact .inl h
              · exact .inr (.inl h)
          simp only [e1, e2]
        by_cases h2 : idF l k 1 [left, right] = (0, 0)
        · rw [h2]
          have HS2 : Hid (splitF l k row left right = if l.length = 200 then (2, -1) else (0, 0)) := hide (by
            rw [HS.out]
            by_cases g1 : numB left = false ∨ numB right = false
            · rw [hidc, if_pos g1] at h2; cases h2
            · by_cases g2 : left = right ∨ hasID l k 1 left = true ∨ hasID l k 1 right = true
              · rw [hidc, if_neg g1, if_pos g2] at h2; cases h2
              · rw [if_neg g1, if_neg g2])
          clear h2 hidc
          unfold flt
          by_cases h200 : l.length = 200
          · have HE := hide (HS2.out.trans (if_pos h200))
            have HL := hide (HEND.out _ _ HE.out (by decide))
            have hlb : ((l.length : Int) == 200) = true := by simp; omega
            clear h200
            go_wp2_with fail
            exact bodyPost_ret (v := .tuple #[.slice none 0 0, flt (2, -1)]) (by simp [results, Try.results7, go_sem, flt, f0'', f1'', hfl3]) rfl ⟨_, by rw [HE.out], by rw [HL.out]; exact RdG.nil _, by go_grown, New.nil _⟩
          · have HE := hide (HS2.out.trans (if_neg h200))
            have HL : Hid (splitR l k row left right = l.take k ++ [⟨p.fr, row, left⟩, ⟨row, p.to_, right⟩] ++ l.drop (k + 1)) := hide (by
              unfold splitR
              rw [HE.out, if_pos rfl, Int.toNat_natCast, splitL, HGD.out])
            have hlb : ((l.length : Int) == 200) = false := beq_eq_false_iff_ne.2 (by omega)
            have hW : Below w3.heap.size w3 ((((w3.alloc (.cells #[.int .i64 0, .int .i64 0] 26)).alloc (.cells #[.string p.fr, .string row, .int .i64 left] 34)).alloc (.cells #[.string row, .string p.to_, .int .i64 right] 34)).alloc (.cells #[.string p.fr, .string row, .int .i64 left, .string row, .string p.to_, .int .i64 right] 34)) := by go_grown
            have hO : RdG pE ((((w3.alloc (.cells #[.int .i64 0, .int .i64 0] 26)).alloc (.cells #[.string p.fr, .string row, .int .i64 left] 34)).alloc (.cells #[.string row, .string p.to_, .int .i64 right] 34)).alloc (.cells #[.string p.fr, .string row, .int .i64 left, .string row, .string p.to_, .int .i64 right] 34)) (.slice (some ⟨w3.heap.size + 1 + 1 + 1, 0, none⟩) 2 2) [⟨p.fr, row, left⟩, ⟨row, p.to_, right⟩] := by
              have := RdG.newL (E := pE) (((w3.alloc (.cells #[.int .i64 0, .int .i64 0] 26)).alloc (.cells #[.string p.fr, .string row, .int .i64 left] 34)).alloc (.cells #[.string row, .string p.to_, .int .i64 right] 34)) [⟨p.fr, row, left⟩, ⟨row, p.to_, right⟩] 34 #[.string p.fr, .string row, .int .i64 left, .string row, .string p.to_, .int .i64 right] rfl (by simp)
              simpa using this
            have HRP := hide (replaced_any _ _ l _ k (k + 1) (k : Int) ((k : Int) + 1) _ (hV3.below hW) hO rfl (by omega) (by omega) (by omega) (by omega) (by simp))
            have HW := hide hW
            clear hW hO h200
            go_wp2_with fail
            refine HRP.out.mono ?_
            rintro e w4 ⟨v4, rfl, hr4, hb4, hn4⟩
            have hb34 : Below w3.heap.size w3 w4 := HW.out.trans (hb4.mono (by simp; omega))
            have hF4 := hF3.later hb34
            have hbw4 := hbw3.trans (hb34.mono hbw3.size)
            have q0 := hF4.cell 0
            have q1 := hF4.cell 1
            have r0 := hF4.frozen 0
            have r1 := hF4.frozen 1
            have hfl4 := hF4.lt
            have hn5 : New w3.heap.size v4 := hn4.mono (by simp; omega)
            simp at q0 q1
            obtain ⟨vo, vc, hvo, _, _⟩ := hr4.shape
            generalize (l.take k ++ [⟨p.fr, row, left⟩, ⟨row, p.to_, right⟩] ++ l.drop (k + 1) : List Pt) = LL at *
            subst hvo
            clear hb4 hn4 f0'' f1'' g0'' g1'' hF3 p0' p1'
            go_wp2_with fail
            exact bodyPost_ret (v := .tuple #[.slice vo LL.length vc, flt (0, 0)]) (by simp [results, Try.results7, go_sem, flt, q0, q1]) rfl ⟨_, by rw [HE.out], by rw [HL.out]; exact hr4.store2 hn5 (by omega) _ _, by go_grown, hn5.mono (by omega)⟩
        · have HE : Hid (splitF l k row left right = idF l k 1 [left, right]) := hide (by
            rw [HS.out]
            by_cases g1 : numB left = false ∨ numB right = false
            · rw [hidc, if_pos g1, if_pos g1]
            · by_cases g2 : left = right ∨ hasID l k 1 left = true ∨ hasID l k 1 right = true
              · rw [hidc, if_neg g1, if_pos g2, if_neg g1, if_pos g2]
              · exact absurd (by rw [hidc, if_neg g1, if_neg g2]) h2)
          have hne : (idF l k 1 [left, right]).1 ≠ 0 := by
            intro h
            apply h2
            rw [hidc] at h ⊢
            split at h
            · cases h
            · split at h
              · cases h
              · rename_i h2 h3
                rw [if_neg h2, if_neg h3]
          clear hidc
          generalize idF l k 1 [left, right] = C at *
          obtain ⟨x, y⟩ := C
          have hne' : x ≠ 0 := hne
          have HL := hide (HEND.out x y HE.out hne')
          have hcb : (x == 0) = false := beq_eq_false_iff_ne.2 hne'
          have hcb2 : (x != 0) = true := by simp [hne']
          clear hne hne' h2
          unfold flt
          go_wp2_with fail
          go_region
          all_goals
            go_wp2_with fail
            exact bodyPost_ret (v := .tuple #[.slice none 0 0, flt (x, y)]) (by simp [results, Try.results7, go_sem, flt, f0'', f1'', hfl3]) rfl ⟨_, by rw [HE.out], by rw [HL.out]; exact RdG.nil _, by go_grown, New.nil _⟩
      · have HE : Hid (splitF l k row left right = rowF p row) := hide (by
          rw [HS.out]
          by_cases h11 : 40 < row.size
          · rw [if_pos h11, rowF, if_pos h11]
          · rw [if_neg h11]
            by_cases h12 : row.toList = p.fr.toList ∨ inB row p.fr p.to_ = false
            · rw [if_pos h12, rowF, if_neg h11, if_pos h12]
            · exact absurd (by rw [rowF, if_neg h11, if_neg h12]) h1)
        have hne : (rowF p row).1 ≠ 0 := by
          intro h
          apply h1
          unfold rowF at h ⊢
          split at h
          · cases h
          · split at h
            · cases h
            · rename_i h2 h3
              rw [if_neg h2, if_neg h3]
        generalize rowF p row = C at *
        obtain ⟨x, y⟩ := C
        have hne' : x ≠ 0 := hne
        have HL := hide (HEND.out x y HE.out hne')
        have hcb : (x == 0) = false := beq_eq_false_iff_ne.2 hne'
        have hcb2 : (x != 0) = true := by simp [hne']
        clear hne hne' h1
        unfold flt
        go_wp2_with fail
        go_region
        all_goals
          go_wp2_with fail
          exact bodyPost_ret (v := .tuple #[.slice none 0 0, flt (x, y)]) (by simp [results, Try.results7, go_sem, flt, f0', f1', hfl2]) rfl ⟨_, by rw [HE.out], by rw [HL.out]; exact RdG.nil _, by go_grown, New.nil _⟩

end Go.Proofs.Ytahgddbladfemae
