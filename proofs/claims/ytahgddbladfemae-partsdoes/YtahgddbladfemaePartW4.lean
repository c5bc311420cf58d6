/-
  The walk over parts.idFault.
-/
import Derived.Test.YtahgddbladfemaePartW3
namespace Go.Proofs.Ytahgddbladfemae
open Go.RowKit Go.Maps
set_option linter.unusedVariables false

/-- Does an ID stay, or come twice? -/
def idGo (l : List Pt) (at_ n : Nat) : List Int → List Int → Bool
  | _, [] => false
  | seen, x :: r => (hasID l at_ n x || seen.any fun y => x == y) || idGo l at_ n (seen ++ [x]) r

def idF (l : List Pt) (at_ n : Nat) (ids : List Int) : Int × Int :=
  if (ids.any fun x => !numB x) = true then (3, -3) else if idGo l at_ n [] ids = true then (10, -3) else (0, 0)

/-- What the map says of an ID, in the list's words. -/
theorem MapOf.look {D : DataW Unit} {l : List Pt} (h : MapOf D l l.length) (hn : (l.map Pt.id).Nodup) (at_ n : Nat) (id : Int) :
    (Maps.has D (.int .i64 id) = false ∧ hasID l at_ n id = false) ∨
    (Maps.has D (.int .i64 id) = true ∧ ∃ i : Nat, i < l.length ∧ (∀ c : Int, D.atKey (.int .i64 id) (.lit (.int .i64 0)) = .lit (.int .i64 c) → c = i) ∧ (hasID l at_ n id = true ↔ i < at_ ∨ at_ + n ≤ i)) := by
  obtain ⟨hm, h⟩ := h
  obtain ⟨h1, h2⟩ := h id
  cases hb : hasAhead l l.length id
  · left
    refine ⟨by rw [h1, hb], ?_⟩
    rw [Bool.eq_false_iff]
    intro hq
    obtain ⟨k, p, hk, hp, _⟩ := hasID_iff.1 hq
    exact hasAhead_false.1 hb k p (List.getElem?_eq_some_iff.1 hk).1 hk hp
  · right
    refine ⟨by rw [h1, hb], ?_⟩
    have : ∃ (i : Nat) (p : Pt), l[i]? = some p ∧ p.id = id := by
      unfold hasAhead at hb
      rw [List.take_length, List.any_eq_true] at hb
      obtain ⟨p, hp, he⟩ := hb
      obtain ⟨i, hi⟩ := List.getElem?_of_mem hp
      exact ⟨i, p, hi, by simpa using he⟩
    obtain ⟨i, p, hi, hp⟩ := this
    have hil := (List.getElem?_eq_some_iff.1 hi).1
    refine ⟨i, hil, fun c hc => ?_, ?_⟩
    · have := h2 i p hil hi hp
      rw [hc] at this
      simpa using this
    · rw [hasID_iff]
      constructor
      · rintro ⟨k, q, hk, hq, hh⟩
        have : k = i := by
          have hnd := nodup_get.1 hn
          have e1 : (l.map Pt.id)[k]? = some q.id := by rw [List.getElem?_map, hk]; rfl
          have e2 : (l.map Pt.id)[i]? = some p.id := by rw [List.getElem?_map, hi]; rfl
          rcases Nat.lt_trichotomy k i with hlt | he | hlt
          · exact absurd (hq.trans hp.symm) (hnd k i hlt _ _ e1 e2)
          · exact he
          · exact absurd (hp.trans hq.symm) (hnd i k hlt _ _ e2 e1)
        rwa [this] at hh
      · intro hh
        exact ⟨i, p, hi, hp, hh⟩

theorem idGo_here {l : List Pt} {at_ n : Nat} {seen r : List Int} {x : Int} (h : (hasID l at_ n x || seen.any fun y => x == y) = true) : idGo l at_ n seen (x :: r) = true := by
  rw [idGo, h]; rfl

theorem idGo_next {l : List Pt} {at_ n : Nat} {seen r : List Int} {x : Int} (h1 : hasID l at_ n x = false) (h2 : (seen.any fun y => x == y) = false) : idGo l at_ n seen (x :: r) = idGo l at_ n (seen ++ [x]) r := by
  rw [idGo, h1, h2]; rfl

set_option maxRecDepth 100000 in
set_option maxHeartbeats 2000000 in
theorem idFault_any (B : Nat) (v : Value) (l : List Pt) (at_ n : Nat) (T : Int) (ids : List Int) (w : World) (hM : IdM w B l) (hf : FineP l) (hv : Rd w v (ic ids)) (hT : T = (at_ : Int) + n) (hab : at_ + n ≤ 1000000) :
    Calls Try.prog 21 #[.map (some B), .int .i64 at_, .int .i64 T, v] w fun e w' => e = .returned (flt (idF l at_ n ids)) ∧ Below w.heap.size w w' := by
  obtain ⟨D, hown0, hmap⟩ := hM
  obtain ⟨ao, cap, hvv, hc1, hc2⟩ := hv.shape
  rw [ic_length] at hvv hc1
  subst hvv
  unfold maxLen at hc2
  have hlook := fun id => hmap.look hf.2.2 at_ n id
  have HLK := hide hlook
  have hown := hown0.alloc (.cells #[.int .i64 0, .int .i64 0] 26)
  have hv1 := hv.alloc (.cells #[.int .i64 0, .int .i64 0] 26)
  have HCF := hide (ContainsFuncI_any _ ids _ hv1)
  clear hlook hmap hf hown0
  cases hany : ids.any fun x => !numB x
  · have HF := hide (show idF l at_ n ids = if idGo l at_ n [] ids = true then (10, -3) else (0, 0) by rw [idF, hany, if_neg (by decide)])
    have hall : ∀ x ∈ ids, numB x = true := by
      intro x hx
      have := List.any_eq_false.1 hany x hx
      simpa using this
    rw [hany] at HCF
    go_enter Try.func21, Try.ntmps21
    go_wp2_with (go_at_call 27; refine HCF.out.mono ?_; rintro e w' ⟨rfl, rfl⟩)
    go_loop [21] (fun iv => ∃ (j : Nat), j ≤ ids.length ∧ iv = .int .i64 j ∧ idGo l at_ n (ids.take j) (ids.drop j) = idGo l at_ n [] ids)
      (fun iv => ids.length - (intOf iv).toNat)
    case atStart => exact ⟨0, by omega, rfl, by simp⟩
    case round =>
      obtain ⟨j, hj, rfl, hgo⟩ := hrel
      have HG := hide hgo
      clear hgo
      by_cases hlt : j < ids.length
      · obtain ⟨x, hx⟩ : ∃ x, ids[j]? = some x := ⟨_, List.getElem?_eq_getElem hlt⟩
        obtain ⟨b, off, rfl, hb, hc⟩ := hv1.hereI hx
        rw [drop_consI hx] at HG
        have hnx := hall x (List.mem_of_getElem? hx)
        have hkey : keyOf Try.prog 3 (.int .i64 x) = some (.int .i64 x) := keyOf_int_mk Try.underlying3 (wf_num hnx)
        have hk1 : (0 : Int) ≤ (j : Int) := by omega
        have hk2 : (j : Int) < (ids.length : Int) := by omega
        have hsl := run_slice_upto (P := Try.prog) Try.underlying52 (by kernel_rfl) infoInt (some ⟨b, off, none⟩) ids.length cap j (j : Int) rfl (by omega)
        obtain ⟨va, hva⟩ := sliced_shape (some ⟨b, off, none⟩) 0 j cap
        have hup := hv1.upto (hi := j) (by omega)
        rw [hva] at hsl hup
        rw [show (ic ids).take j = ic (ids.take j) by simp [ic, List.map_take]] at hup
        have HCT := hide (ContainsI_any _ (ids.take j) x _ hup)
        have hts : ids.take j ++ [x] = ids.take (j + 1) := by
          obtain ⟨hl, rfl⟩ := List.getElem?_eq_some_iff.1 hx
          exact (List.take_succ_eq_append_getElem hl).symm
        have HTS := hide hts
        clear hts hx hva hup
        have HX := HLK.out x
        rcases HX with ⟨hhas, hid⟩ | ⟨hhas, i, hil, hci, hid⟩
        · cases hct : (ids.take j).any fun y => x == y
          · rw [hct] at HCT
            have HE := hide (HG.out.symm.trans (idGo_next hid hct))
            go_wp2_with (first
              | (at_lookup; refine wpList_lookup_own_ok_int _ rfl _ _ 43 rfl 3 3 .i64 lawInt Try.underlying43 Try.underlying3 (zeroInt _) B l.length D rfl hown _ _ rfl hkey ?_; intro c hat hwc; rw [hhas])
              | (go_at_call 28; refine HCT.out.mono ?_; rintro e w' ⟨rfl, rfl⟩)
              | go_in)
            go_round
            case rel => exact ⟨j + 1, by omega, by go_num, by rw [HE.out, HTS.out]⟩
            case measure => simp [intOf]; omega
          · rw [hct] at HCT
            have HE := hide (HF.out.trans (if_pos (HG.out.symm.trans (idGo_here (by rw [hct, Bool.or_true])))))
            go_wp2_with (first
              | (at_lookup; refine wpList_lookup_own_ok_int _ rfl _ _ 43 rfl 3 3 .i64 lawInt Try.underlying43 Try.underlying3 (zeroInt _) B l.length D rfl hown _ _ rfl hkey ?_; intro c hat hwc; rw [hhas])
              | (go_at_call 28; refine HCT.out.mono ?_; rintro e w' ⟨rfl, rfl⟩)
              | go_in)
            exact bodyPost_ret (v := flt (10, -3)) (by simp [results, Try.results21, go_sem, flt]) rfl ⟨by rw [HE.out], by go_grown⟩
        · have HCI := hide hci
          have HID := hide hid
          clear hci hid
          by_cases hi1 : i < at_
          · have HE := hide (HF.out.trans (if_pos (HG.out.symm.trans (idGo_here (by rw [HID.out.2 (.inl hi1)]; rfl)))))
            have hi2 : (i : Int) < (at_ : Int) := by omega
            have hd : decide ((i : Int) < (at_ : Int)) = true := decide_eq_true hi2
            go_wp2_with (first
              | (at_lookup; refine wpList_lookup_own_ok_int _ rfl _ _ 43 rfl 3 3 .i64 lawInt Try.underlying43 Try.underlying3 (zeroInt _) B l.length D rfl hown _ _ rfl hkey ?_; intro c hat hwc; rw [hhas, HCI.out c hat]; clear hat hwc)
              | go_in)
            exact bodyPost_ret (v := flt (10, -3)) (by simp [results, Try.results21, go_sem, flt]) rfl ⟨by rw [HE.out], by go_grown⟩
          · have hd : decide ((i : Int) < (at_ : Int)) = false := decide_eq_false (by omega)
            by_cases hi3 : at_ + n ≤ i
            · have HE := hide (HF.out.trans (if_pos (HG.out.symm.trans (idGo_here (by rw [HID.out.2 (.inr hi3)]; rfl)))))
              have hd2 : T ≤ (i : Int) := by omega
              go_wp2_with (first
                | (at_lookup; refine wpList_lookup_own_ok_int _ rfl _ _ 43 rfl 3 3 .i64 lawInt Try.underlying43 Try.underlying3 (zeroInt _) B l.length D rfl hown _ _ rfl hkey ?_; intro c hat hwc; rw [hhas, HCI.out c hat]; clear hat hwc)
                | go_in)
              exact bodyPost_ret (v := flt (10, -3)) (by simp [results, Try.results21, go_sem, flt]) rfl ⟨by rw [HE.out], by go_grown⟩
            · have hid : hasID l at_ n x = false := by
                rw [Bool.eq_false_iff]
                intro hq
                have := HID.out.1 hq
                omega
              have hd2 : ¬ T ≤ (i : Int) := by omega
              have hd3 : decide (T ≤ (i : Int)) = false := decide_eq_false hd2
              cases hct : (ids.take j).any fun y => x == y
              · rw [hct] at HCT
                have HE := hide (HG.out.symm.trans (idGo_next hid hct))
                go_wp2_with (first
                  | (at_lookup; refine wpList_lookup_own_ok_int _ rfl _ _ 43 rfl 3 3 .i64 lawInt Try.underlying43 Try.underlying3 (zeroInt _) B l.length D rfl hown _ _ rfl hkey ?_; intro c hat hwc; rw [hhas, HCI.out c hat]; clear hat hwc)
                  | (go_at_call 28; refine HCT.out.mono ?_; rintro e w' ⟨rfl, rfl⟩)
                  | go_in)
                go_round
                case rel => exact ⟨j + 1, by omega, by go_num, by rw [HE.out, HTS.out]⟩
                case measure => simp [intOf]; omega
              · rw [hct] at HCT
                have HE := hide (HF.out.trans (if_pos (HG.out.symm.trans (idGo_here (by rw [hct, Bool.or_true])))))
                go_wp2_with (first
                  | (at_lookup; refine wpList_lookup_own_ok_int _ rfl _ _ 43 rfl 3 3 .i64 lawInt Try.underlying43 Try.underlying3 (zeroInt _) B l.length D rfl hown _ _ rfl hkey ?_; intro c hat hwc; rw [hhas, HCI.out c hat]; clear hat hwc)
                  | (go_at_call 28; refine HCT.out.mono ?_; rintro e w' ⟨rfl, rfl⟩)
                  | go_in)
                exact bodyPost_ret (v := flt (10, -3)) (by simp [results, Try.results21, go_sem, flt]) rfl ⟨by rw [HE.out], by go_grown⟩
      · have hje : j = ids.length := by omega
        subst hje
        rw [List.drop_length] at HG
        have HE : Hid (idF l at_ n ids = (0, 0)) := hide (HF.out.trans (if_neg (by rw [← HG.out]; simp [idGo])))
        go_wp2_with fail
        exact bodyPost_ret (v := flt (0, 0)) (by simp [results, Try.results21, go_sem, flt]) rfl ⟨by rw [HE.out], by go_grown⟩
  · have HE := hide (show idF l at_ n ids = (3, -3) by rw [idF, hany, if_pos rfl])
    rw [hany] at HCF
    go_enter Try.func21, Try.ntmps21
    go_wp2_with (go_at_call 27; refine HCF.out.mono ?_; rintro e w' ⟨rfl, rfl⟩)
    exact bodyPost_ret (v := flt (3, -3)) (by simp [results, Try.results21, go_sem, flt]) rfl ⟨by rw [HE.out], by go_grown⟩

end Go.Proofs.Ytahgddbladfemae
