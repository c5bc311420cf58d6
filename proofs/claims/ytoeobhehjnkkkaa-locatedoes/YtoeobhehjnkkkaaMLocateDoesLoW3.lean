/-
  Texts joined: LoW3.
-/
import Derived.Test.YtoeobhehjnkkkaaMLocateDoesLoW2
import Derived.Test.YtoeobhehjnkkkaaMLocateDoes4
import Derived.Test.YtoeobhehjnkkkaaMLocateDoesAsW14
/-
  The walks over package locate's learnt: what stays, and what is put between. (Written by lo3.py.)
-/
namespace Go.Proofs.Ytoeobhehjnkkkaa
open Go.RowKit Go.Maps
set_option linter.unusedVariables false

/-- What is known, as places. -/
def knA (k : Kn) : Array Value := #[.string k.p.fr, .string k.p.to_, .int .i64 k.p.id, .int .i64 k.ho, .int .i64 k.tu]

theorem ahT {p q : Pt} (h : ahK p q = true) : ahK p q = true := h

set_option maxRecDepth 100000 in
set_option maxHeartbeats 1000000 in
theorem learnt1_any (k : Kn) (p : Pt) (C : Nat) (w : World) (hC : Blk w C 61 #[.string k.p.fr, .string k.p.to_, .int .i64 k.p.id, .int .i64 k.ho, .int .i64 k.tu]) :
    Calls Try.prog 83 #[.agg #[.string p.fr, .string p.to_, .int .i64 p.id], .pointer (some ⟨C, 0, none⟩)] w fun e w' => e = .returned (.bool (ahK p k.p)) ∧ Below w.heap.size w w' := by
  have c0 := hC.cell 0
  have c1 := hC.cell 1
  have c2 := hC.cell 2
  have cl := hC.lt
  simp at c0 c1 c2
  clear hC
  go_enter Try.func83, Try.ntmps83
  go_wp2_with (go_at_call 78; refine (isAheadK_any p k.p _).mono ?_; rintro e w1 ⟨rfl, hb1⟩; have HB1 := hide ((show Below w.heap.size w _ from by go_grown).trans (hb1.mono (by go_grown))); clear hb1)
  go_ret
  exact ⟨rfl, HB1.out⟩

set_option maxRecDepth 100000 in
set_option maxHeartbeats 4000000 in
theorem those1_any (k : Kn) (C : Nat) (v : Value) (l : List Kn) (w : World) (hv : RdG knE w v l) (hl : l.length ≤ 1000) (hC : Blk w C 61 #[.string k.p.fr, .string k.p.to_, .int .i64 k.p.id, .int .i64 k.ho, .int .i64 k.tu]) :
    Calls Try.prog 82 #[v, .func (.func 83) #[] #[.pointer (some ⟨C, 0, none⟩)]] w fun e w' => ∃ v', e = .returned v' ∧ w'.ownsRow w.heap.size 61 5 v' (l.filter fun x => ahK x.p k.p).length (knE.vs (l.filter fun x => ahK x.p k.p)) ∧ Below w.heap.size w w' := by
  have HV := hide hv
  have HC := hide hC
  have HFL : Hid (∀ j x, l[j]? = some x → (l.take (j + 1)).filter (fun x => ahK x.p k.p) = (l.take j).filter (fun x => ahK x.p k.p) ++ if (ahK x.p k.p) = true then [x] else []) := hide (fun j x hx => by
    rw [take_succ_of hx, List.filter_append]
    congr 1
    cases h : ahK x.p k.p <;> simp [List.filter, h])
  generalize hF : (fun x : Kn => ahK x.p k.p) = F at *
  have HFX : Hid (∀ x : Kn, ahK x.p k.p = F x) := hide (fun x => congrFun hF x)
  obtain ⟨ao, cap, rfl, hc1, hc2⟩ := hv.shape
  unfold maxLen at hc2
  clear hv hC hF
  go_enter Try.func82, Try.ntmps82
  go_wp2_with fail
  go_loopw [5, 10] (fun ov iv wr => ∃ j : Nat, j ≤ l.length ∧ iv = .int .i64 j ∧ wr.ownsRow w.heap.size 61 5 ov ((l.take j).filter F).length (knE.vs ((l.take j).filter F)) ∧ Below w.heap.size w wr)
    (fun _ iv _ => l.length - (intOf iv).toNat)
  case atStart => exact ⟨0, by omega, rfl, World.ownsRow_nil _ _ _ _, Below.refl _ _⟩
  case round =>
    obtain ⟨j, hj, rfl, hown, hbr⟩ := hrel
    obtain ⟨oo, ocap, rfl⟩ := owns_shapeA hown
    have HLn := hide (Nat.le_trans (List.length_filter_le F (l.take j)) (show (l.take j).length ≤ 1000 by rw [List.length_take]; omega))
    by_cases hlt : j < l.length
    · obtain ⟨x, hx⟩ : ∃ x, l[j]? = some x := ⟨_, List.getElem?_eq_getElem hlt⟩
      obtain ⟨b, off, rfl, hb, hat⟩ := HV.out.here hx
      have hbw : b < wr.heap.size := Nat.lt_of_lt_of_le hb hbr.size
      obtain ⟨c0, c1, c2, c3, c4⟩ := (hat.below hbr).known
      have hk1 : (0 : Int) ≤ (j : Int) := by omega
      have hk2 : (j : Int) < (l.length : Int) := by omega
      have HP := hide (HFL.out j x hx)
      rw [HFX.out x] at HP
      generalize hG2 : (l.take (j + 1)).filter F = G2 at *
      have HG2 := hide hG2
      clear hG2
      generalize (l.take j).filter F = G1 at *
      have hbA := below_allocG wr (.cells #[.string x.p.fr, .string x.p.to_, .int .i64 x.p.id, .int .i64 x.ho, .int .i64 x.tu] 61)
      have HP1 := hide (Blk.new wr 61 #[.string x.p.fr, .string x.p.to_, .int .i64 x.p.id, .int .i64 x.ho, .int .i64 x.tu])
      have HO := hide (hown.alloc (.cells #[.string x.p.fr, .string x.p.to_, .int .i64 x.p.id, .int .i64 x.ho, .int .i64 x.tu] 61))
      have HBA := hide (hbr.trans (hbA.mono hbr.size))
      have HN := hide (learnt1_any k x.p C _ (HC.out.later HBA.out))
      rw [HFX.out x] at HN
      clear hat hx hown hbA hbr HFL
      go_upto_region 5 with fail
      generalize hWA : wr.alloc (.cells #[.string x.p.fr, .string x.p.to_, .int .i64 x.p.id, .int .i64 x.ho, .int .i64 x.tu] 61) = WA at HO HBA HP1 HN ⊢
      have p0 := HP1.out.cell 0
      have p1 := HP1.out.cell 1
      have p2 := HP1.out.cell 2
      have pl := HP1.out.lt
      simp at p0 p1 p2
      clear hWA c0 c1 c2 c3 c4
      cases hq : F x
      · rw [hq] at HN HP
        rw [if_neg (by decide), List.append_nil] at HP
        go_wp2_with (go_at_call 83; refine HN.out.mono ?_; rintro e w1 ⟨rfl, hb1⟩; have HB1 := hide (HBA.out.trans (hb1.mono HBA.out.size)); have HO1 := hide (owns_laterA HO.out hb1); clear hb1)
        go_roundw
        case rel => exact ⟨j + 1, by omega, by go_num, by rw [HG2.out, HP.out]; exact HO1.out, HB1.out⟩
        case measure => simp [intOf]; omega
      · rw [hq] at HN HP
        rw [if_pos rfl] at HP
        go_upto_region 6 with (go_at_call 83; refine HN.out.mono ?_; rintro e w1 ⟨rfl, hb1⟩; have HB1 := hide (HBA.out.trans (hb1.mono HBA.out.size)); have HO1 := hide (owns_laterA HO.out hb1); have HP2 := hide (HP1.out.later hb1); clear hb1)
        clear p0 p1 p2 pl
        have hll := HLn.out
        have hll2 := HB1.out.size
        go_wp2_with (first
          | (refine wpList_load_blk HP2.out Try.underlying61 rfl Try.sizeKnown rfl rfl rfl ?_)
          | (refine wpList_append_oneG (E := knE) (c := x) HO1.out rfl Try.underlying59 infoKnown rfl rfl rfl rfl rfl (by omega) (by decide) hll2 ?_; intro v2 w2 ho2 hb2 hg2; have HO2 := hide ho2; have HB2 := hide hb2; clear ho2 hb2 hg2))
        go_roundw
        case rel => exact ⟨j + 1, by omega, by go_num, by rw [HG2.out, HP.out, List.length_append]; exact HO2.out, HB1.out.trans HB2.out⟩
        case measure => simp [intOf]; omega
    · have hje : j = l.length := by omega
      subst hje
      simp only [List.take_length] at hown ⊢
      have HO := hide hown
      have HB := hide hbr
      clear hown hbr
      go_wp2_with fail
      go_ret
      exact ⟨_, rfl, HO.out, HB.out⟩

set_option maxRecDepth 100000 in
set_option maxHeartbeats 1000000 in
theorem learnt2_any (k : Kn) (p : Pt) (C : Nat) (w : World) (hC : Blk w C 61 #[.string k.p.fr, .string k.p.to_, .int .i64 k.p.id, .int .i64 k.ho, .int .i64 k.tu]) :
    Calls Try.prog 84 #[.agg #[.string p.fr, .string p.to_, .int .i64 p.id], .pointer (some ⟨C, 0, none⟩)] w fun e w' => e = .returned (.bool (ahK k.p p)) ∧ Below w.heap.size w w' := by
  have c0 := hC.cell 0
  have c1 := hC.cell 1
  have c2 := hC.cell 2
  have cl := hC.lt
  simp at c0 c1 c2
  clear hC
  go_enter Try.func84, Try.ntmps84
  go_wp2_with (go_at_call 78; refine (isAheadK_any k.p p _).mono ?_; rintro e w1 ⟨rfl, hb1⟩; have HB1 := hide ((show Below w.heap.size w _ from by go_grown).trans (hb1.mono (by go_grown))); clear hb1)
  go_ret
  exact ⟨rfl, HB1.out⟩

set_option maxRecDepth 100000 in
set_option maxHeartbeats 4000000 in
theorem those2_any (k : Kn) (C : Nat) (v : Value) (l : List Kn) (w : World) (hv : RdG knE w v l) (hl : l.length ≤ 1000) (hC : Blk w C 61 #[.string k.p.fr, .string k.p.to_, .int .i64 k.p.id, .int .i64 k.ho, .int .i64 k.tu]) :
    Calls Try.prog 82 #[v, .func (.func 84) #[] #[.pointer (some ⟨C, 0, none⟩)]] w fun e w' => ∃ v', e = .returned v' ∧ w'.ownsRow w.heap.size 61 5 v' (l.filter fun x => ahK k.p x.p).length (knE.vs (l.filter fun x => ahK k.p x.p)) ∧ Below w.heap.size w w' := by
  have HV := hide hv
  have HC := hide hC
  have HFL : Hid (∀ j x, l[j]? = some x → (l.take (j + 1)).filter (fun x => ahK k.p x.p) = (l.take j).filter (fun x => ahK k.p x.p) ++ if (ahK k.p x.p) = true then [x] else []) := hide (fun j x hx => by
    rw [take_succ_of hx, List.filter_append]
    congr 1
    cases h : ahK k.p x.p <;> simp [List.filter, h])
  generalize hF : (fun x : Kn => ahK k.p x.p) = F at *
  have HFX : Hid (∀ x : Kn, ahK k.p x.p = F x) := hide (fun x => congrFun hF x)
  obtain ⟨ao, cap, rfl, hc1, hc2⟩ := hv.shape
  unfold maxLen at hc2
  clear hv hC hF
  go_enter Try.func82, Try.ntmps82
  go_wp2_with fail
  go_loopw [5, 10] (fun ov iv wr => ∃ j : Nat, j ≤ l.length ∧ iv = .int .i64 j ∧ wr.ownsRow w.heap.size 61 5 ov ((l.take j).filter F).length (knE.vs ((l.take j).filter F)) ∧ Below w.heap.size w wr)
    (fun _ iv _ => l.length - (intOf iv).toNat)
  case atStart => exact ⟨0, by omega, rfl, World.ownsRow_nil _ _ _ _, Below.refl _ _⟩
  case round =>
    obtain ⟨j, hj, rfl, hown, hbr⟩ := hrel
    obtain ⟨oo, ocap, rfl⟩ := owns_shapeA hown
    have HLn := hide (Nat.le_trans (List.length_filter_le F (l.take j)) (show (l.take j).length ≤ 1000 by rw [List.length_take]; omega))
    by_cases hlt : j < l.length
    · obtain ⟨x, hx⟩ : ∃ x, l[j]? = some x := ⟨_, List.getElem?_eq_getElem hlt⟩
      obtain ⟨b, off, rfl, hb, hat⟩ := HV.out.here hx
      have hbw : b < wr.heap.size := Nat.lt_of_lt_of_le hb hbr.size
      obtain ⟨c0, c1, c2, c3, c4⟩ := (hat.below hbr).known
      have hk1 : (0 : Int) ≤ (j : Int) := by omega
      have hk2 : (j : Int) < (l.length : Int) := by omega
      have HP := hide (HFL.out j x hx)
      rw [HFX.out x] at HP
      generalize hG2 : (l.take (j + 1)).filter F = G2 at *
      have HG2 := hide hG2
      clear hG2
      generalize (l.take j).filter F = G1 at *
      have hbA := below_allocG wr (.cells #[.string x.p.fr, .string x.p.to_, .int .i64 x.p.id, .int .i64 x.ho, .int .i64 x.tu] 61)
      have HP1 := hide (Blk.new wr 61 #[.string x.p.fr, .string x.p.to_, .int .i64 x.p.id, .int .i64 x.ho, .int .i64 x.tu])
      have HO := hide (hown.alloc (.cells #[.string x.p.fr, .string x.p.to_, .int .i64 x.p.id, .int .i64 x.ho, .int .i64 x.tu] 61))
      have HBA := hide (hbr.trans (hbA.mono hbr.size))
      have HN := hide (learnt2_any k x.p C _ (HC.out.later HBA.out))
      rw [HFX.out x] at HN
      clear hat hx hown hbA hbr HFL
      go_upto_region 5 with fail
      generalize hWA : wr.alloc (.cells #[.string x.p.fr, .string x.p.to_, .int .i64 x.p.id, .int .i64 x.ho, .int .i64 x.tu] 61) = WA at HO HBA HP1 HN ⊢
      have p0 := HP1.out.cell 0
      have p1 := HP1.out.cell 1
      have p2 := HP1.out.cell 2
      have pl := HP1.out.lt
      simp at p0 p1 p2
      clear hWA c0 c1 c2 c3 c4
      cases hq : F x
      · rw [hq] at HN HP
        rw [if_neg (by decide), List.append_nil] at HP
        go_wp2_with (go_at_call 84; refine HN.out.mono ?_; rintro e w1 ⟨rfl, hb1⟩; have HB1 := hide (HBA.out.trans (hb1.mono HBA.out.size)); have HO1 := hide (owns_laterA HO.out hb1); clear hb1)
        go_roundw
        case rel => exact ⟨j + 1, by omega, by go_num, by rw [HG2.out, HP.out]; exact HO1.out, HB1.out⟩
        case measure => simp [intOf]; omega
      · rw [hq] at HN HP
        rw [if_pos rfl] at HP
        go_upto_region 6 with (go_at_call 84; refine HN.out.mono ?_; rintro e w1 ⟨rfl, hb1⟩; have HB1 := hide (HBA.out.trans (hb1.mono HBA.out.size)); have HO1 := hide (owns_laterA HO.out hb1); have HP2 := hide (HP1.out.later hb1); clear hb1)
        clear p0 p1 p2 pl
        have hll := HLn.out
        have hll2 := HB1.out.size
        go_wp2_with (first
          | (refine wpList_load_blk HP2.out Try.underlying61 rfl Try.sizeKnown rfl rfl rfl ?_)
          | (refine wpList_append_oneG (E := knE) (c := x) HO1.out rfl Try.underlying59 infoKnown rfl rfl rfl rfl rfl (by omega) (by decide) hll2 ?_; intro v2 w2 ho2 hb2 hg2; have HO2 := hide ho2; have HB2 := hide hb2; clear ho2 hb2 hg2))
        go_roundw
        case rel => exact ⟨j + 1, by omega, by go_num, by rw [HG2.out, HP.out, List.length_append]; exact HO2.out, HB1.out.trans HB2.out⟩
        case measure => simp [intOf]; omega
    · have hje : j = l.length := by omega
      subst hje
      simp only [List.take_length] at hown ⊢
      have HO := hide hown
      have HB := hide hbr
      clear hown hbr
      go_wp2_with fail
      go_ret
      exact ⟨_, rfl, HO.out, HB.out⟩

end Go.Proofs.Ytoeobhehjnkkkaa
