/-
  Texts joined: PartW4, GenC, PartW5, PartW6, AsMath, AsMap, GenD, GenV.
-/
import Derived.Test.YtoeobhehjnkkkaaMLocateDoes1
import Derived.Lib.AppendZerosOnto
import Derived.Deep.WholeRow
/-
  The walk over parts.idFault.
-/
namespace Go.Proofs.Ytoeobhehjnkkkaa
open Go.RowKit Go.Maps
set_option linter.unusedVariables false

/-- Does an ID stay, or come twice? -/
def idGo (l : List Pt) (at_ n : Nat) : List Int → List Int → Bool
  | _, [] => false
  | seen, x :: r => (hasID l at_ n x || seen.any fun y => x == y) || idGo l at_ n (seen ++ [x]) r

def idF (l : List Pt) (at_ n : Nat) (ids : List Int) : Int × Int :=
  if (ids.any fun x => !numB x) = true then (3, -3) else if idGo l at_ n [] ids = true then (10, -3) else (0, 0)

/-- What the map says of an ID, in the list's words. -/
theorem MapOf.look {D : DataW Unit} {l : List Pt} (h : MapOf D l l.length) (hn : (l.map Pt.id).Nodup) (at_ n : Nat) (id : Int) :
    (Maps.has D (.int .i64 id) = false ∧ hasID l at_ n id = false) ∨
    (Maps.has D (.int .i64 id) = true ∧ ∃ i : Nat, i < l.length ∧ (∀ c : Int, D.atKey (.int .i64 id) (.lit (.int .i64 0)) = .lit (.int .i64 c) → c = i) ∧ (hasID l at_ n id = true ↔ i < at_ ∨ at_ + n ≤ i)) := by
  obtain ⟨hm, h⟩ := h
  obtain ⟨h1, h2⟩ := h id
  cases hb : hasAhead l l.length id
  · left
    refine ⟨by rw [h1, hb], ?_⟩
    rw [Bool.eq_false_iff]
    intro hq
    obtain ⟨k, p, hk, hp, _⟩ := hasID_iff.1 hq
    exact hasAhead_false.1 hb k p (List.getElem?_eq_some_iff.1 hk).1 hk hp
  · right
    refine ⟨by rw [h1, hb], ?_⟩
    have : ∃ (i : Nat) (p : Pt), l[i]? = some p ∧ p.id = id := by
      unfold hasAhead at hb
      rw [List.take_length, List.any_eq_true] at hb
      obtain ⟨p, hp, he⟩ := hb
      obtain ⟨i, hi⟩ := List.getElem?_of_mem hp
      exact ⟨i, p, hi, by simpa using he⟩
    obtain ⟨i, p, hi, hp⟩ := this
    have hil := (List.getElem?_eq_some_iff.1 hi).1
    refine ⟨i, hil, fun c hc => ?_, ?_⟩
    · have := h2 i p hil hi hp
      rw [hc] at this
      simpa using this
    · rw [hasID_iff]
      constructor
      · rintro ⟨k, q, hk, hq, hh⟩
        have : k = i := by
          have hnd := nodup_get.1 hn
          have e1 : (l.map Pt.id)[k]? = some q.id := by rw [List.getElem?_map, hk]; rfl
          have e2 : (l.map Pt.id)[i]? = some p.id := by rw [List.getElem?_map, hi]; rfl
          rcases Nat.lt_trichotomy k i with hlt | he | hlt
          · exact absurd (hq.trans hp.symm) (hnd k i hlt _ _ e1 e2)
          · exact he
          · exact absurd (hp.trans hq.symm) (hnd i k hlt _ _ e2 e1)
        rwa [this] at hh
      · intro hh
        exact ⟨i, p, hi, hp, hh⟩

theorem idGo_here {l : List Pt} {at_ n : Nat} {seen r : List Int} {x : Int} (h : (hasID l at_ n x || seen.any fun y => x == y) = true) : idGo l at_ n seen (x :: r) = true := by
  rw [idGo, h]; rfl

theorem idGo_next {l : List Pt} {at_ n : Nat} {seen r : List Int} {x : Int} (h1 : hasID l at_ n x = false) (h2 : (seen.any fun y => x == y) = false) : idGo l at_ n seen (x :: r) = idGo l at_ n (seen ++ [x]) r := by
  rw [idGo, h1, h2]; rfl

set_option maxRecDepth 100000 in
set_option maxHeartbeats 2000000 in
theorem idFault_any (B : Nat) (v : Value) (l : List Pt) (at_ n : Nat) (T : Int) (ids : List Int) (w : World) (hM : IdM w B l) (hf : FineP l) (hv : Rd w v (ic ids)) (hT : T = (at_ : Int) + n) (hab : at_ + n ≤ 1000000) :
    Calls Try.prog 107 #[.map (some B), .int .i64 at_, .int .i64 T, v] w fun e w' => e = .returned (flt (idF l at_ n ids)) ∧ Below w.heap.size w w' := by
  obtain ⟨D, hown0, hmap⟩ := hM
  obtain ⟨ao, cap, hvv, hc1, hc2⟩ := hv.shape
  rw [ic_length] at hvv hc1
  subst hvv
  unfold maxLen at hc2
  have hlook := fun id => hmap.look hf.2.2 at_ n id
  have HLK := hide hlook
  have hown := hown0.alloc (.cells #[.int .i64 0, .int .i64 0] 30)
  have hv1 := hv.alloc (.cells #[.int .i64 0, .int .i64 0] 30)
  have HCF := hide (ContainsFuncI_any _ ids _ hv1)
  clear hlook hmap hf hown0
  cases hany : ids.any fun x => !numB x
  · have HF := hide (show idF l at_ n ids = if idGo l at_ n [] ids = true then (10, -3) else (0, 0) by rw [idF, hany, if_neg (by decide)])
    have hall : ∀ x ∈ ids, numB x = true := by
      intro x hx
      have := List.any_eq_false.1 hany x hx
      simpa using this
    rw [hany] at HCF
    go_enter Try.func107, Try.ntmps107
    go_wp2_with (go_at_call 123; refine HCF.out.mono ?_; rintro e w' ⟨rfl, rfl⟩)
    go_loop [21] (fun iv => ∃ (j : Nat), j ≤ ids.length ∧ iv = .int .i64 j ∧ idGo l at_ n (ids.take j) (ids.drop j) = idGo l at_ n [] ids)
      (fun iv => ids.length - (intOf iv).toNat)
    case atStart => exact ⟨0, by omega, rfl, by simp⟩
    case round =>
      obtain ⟨j, hj, rfl, hgo⟩ := hrel
      have HG := hide hgo
      clear hgo
      by_cases hlt : j < ids.length
      · obtain ⟨x, hx⟩ : ∃ x, ids[j]? = some x := ⟨_, List.getElem?_eq_getElem hlt⟩
        obtain ⟨b, off, rfl, hb, hc⟩ := hv1.hereI hx
        rw [drop_consI hx] at HG
        have hnx := hall x (List.mem_of_getElem? hx)
        have hkey : keyOf Try.prog 3 (.int .i64 x) = some (.int .i64 x) := keyOf_int_mk Try.underlying3 (wf_num hnx)
        have hk1 : (0 : Int) ≤ (j : Int) := by omega
        have hk2 : (j : Int) < (ids.length : Int) := by omega
        have hsl := run_slice_upto (P := Try.prog) Try.underlying83 (by kernel_rfl) infoInt (some ⟨b, off, none⟩) ids.length cap j (j : Int) rfl (by omega)
        obtain ⟨va, hva⟩ := sliced_shape (some ⟨b, off, none⟩) 0 j cap
        have hup := hv1.upto (hi := j) (by omega)
        rw [hva] at hsl hup
        rw [show (ic ids).take j = ic (ids.take j) by simp [ic, List.map_take]] at hup
        have HCT := hide (ContainsI_any _ (ids.take j) x _ hup)
        have hts : ids.take j ++ [x] = ids.take (j + 1) := by
          obtain ⟨hl, rfl⟩ := List.getElem?_eq_some_iff.1 hx
          exact (List.take_succ_eq_append_getElem hl).symm
        have HTS := hide hts
        clear hts hx hva hup
        have HX := HLK.out x
        rcases HX with ⟨hhas, hid⟩ | ⟨hhas, i, hil, hci, hid⟩
        · cases hct : (ids.take j).any fun y => x == y
          · rw [hct] at HCT
            have HE := hide (HG.out.symm.trans (idGo_next hid hct))
            go_wp2_with (first
              | (at_lookup; refine wpList_lookup_own_ok_int _ rfl _ _ 142 rfl 3 3 .i64 lawInt Try.underlying142 Try.underlying3 (zeroInt _) B l.length D rfl hown _ _ rfl hkey ?_; intro c hat hwc; rw [hhas])
              | (go_at_call 124; refine HCT.out.mono ?_; rintro e w' ⟨rfl, rfl⟩)
              | go_in)
            go_round
            case rel => exact ⟨j + 1, by omega, by go_num, by rw [HE.out, HTS.out]⟩
            case measure => simp [intOf]; omega
          · rw [hct] at HCT
            have HE := hide (HF.out.trans (if_pos (HG.out.symm.trans (idGo_here (by rw [hct, Bool.or_true])))))
            go_wp2_with (first
              | (at_lookup; refine wpList_lookup_own_ok_int _ rfl _ _ 142 rfl 3 3 .i64 lawInt Try.underlying142 Try.underlying3 (zeroInt _) B l.length D rfl hown _ _ rfl hkey ?_; intro c hat hwc; rw [hhas])
              | (go_at_call 124; refine HCT.out.mono ?_; rintro e w' ⟨rfl, rfl⟩)
              | go_in)
            exact bodyPost_ret (v := flt (10, -3)) (by simp [results, Try.results107, go_sem, flt]) rfl ⟨by rw [HE.out], by go_grown⟩
        · have HCI := hide hci
          have HID := hide hid
          clear hci hid
          by_cases hi1 : i < at_
          · have HE := hide (HF.out.trans (if_pos (HG.out.symm.trans (idGo_here (by rw [HID.out.2 (.inl hi1)]; rfl)))))
            have hi2 : (i : Int) < (at_ : Int) := by omega
            have hd : decide ((i : Int) < (at_ : Int)) = true := decide_eq_true hi2
            go_wp2_with (first
              | (at_lookup; refine wpList_lookup_own_ok_int _ rfl _ _ 142 rfl 3 3 .i64 lawInt Try.underlying142 Try.underlying3 (zeroInt _) B l.length D rfl hown _ _ rfl hkey ?_; intro c hat hwc; rw [hhas, HCI.out c hat]; clear hat hwc)
              | go_in)
            exact bodyPost_ret (v := flt (10, -3)) (by simp [results, Try.results107, go_sem, flt]) rfl ⟨by rw [HE.out], by go_grown⟩
          · have hd : decide ((i : Int) < (at_ : Int)) = false := decide_eq_false (by omega)
            by_cases hi3 : at_ + n ≤ i
            · have HE := hide (HF.out.trans (if_pos (HG.out.symm.trans (idGo_here (by rw [HID.out.2 (.inr hi3)]; rfl)))))
              have hd2 : T ≤ (i : Int) := by omega
              go_wp2_with (first
                | (at_lookup; refine wpList_lookup_own_ok_int _ rfl _ _ 142 rfl 3 3 .i64 lawInt Try.underlying142 Try.underlying3 (zeroInt _) B l.length D rfl hown _ _ rfl hkey ?_; intro c hat hwc; rw [hhas, HCI.out c hat]; clear hat hwc)
                | go_in)
              exact bodyPost_ret (v := flt (10, -3)) (by simp [results, Try.results107, go_sem, flt]) rfl ⟨by rw [HE.out], by go_grown⟩
            · have hid : hasID l at_ n x = false := by
                rw [Bool.eq_false_iff]
                intro hq
                have := HID.out.1 hq
                omega
              have hd2 : ¬ T ≤ (i : Int) := by omega
              have hd3 : decide (T ≤ (i : Int)) = false := decide_eq_false hd2
              cases hct : (ids.take j).any fun y => x == y
              · rw [hct] at HCT
                have HE := hide (HG.out.symm.trans (idGo_next hid hct))
                go_wp2_with (first
                  | (at_lookup; refine wpList_lookup_own_ok_int _ rfl _ _ 142 rfl 3 3 .i64 lawInt Try.underlying142 Try.underlying3 (zeroInt _) B l.length D rfl hown _ _ rfl hkey ?_; intro c hat hwc; rw [hhas, HCI.out c hat]; clear hat hwc)
                  | (go_at_call 124; refine HCT.out.mono ?_; rintro e w' ⟨rfl, rfl⟩)
                  | go_in)
                go_round
                case rel => exact ⟨j + 1, by omega, by go_num, by rw [HE.out, HTS.out]⟩
                case measure => simp [intOf]; omega
              · rw [hct] at HCT
                have HE := hide (HF.out.trans (if_pos (HG.out.symm.trans (idGo_here (by rw [hct, Bool.or_true])))))
                go_wp2_with (first
                  | (at_lookup; refine wpList_lookup_own_ok_int _ rfl _ _ 142 rfl 3 3 .i64 lawInt Try.underlying142 Try.underlying3 (zeroInt _) B l.length D rfl hown _ _ rfl hkey ?_; intro c hat hwc; rw [hhas, HCI.out c hat]; clear hat hwc)
                  | (go_at_call 124; refine HCT.out.mono ?_; rintro e w' ⟨rfl, rfl⟩)
                  | go_in)
                exact bodyPost_ret (v := flt (10, -3)) (by simp [results, Try.results107, go_sem, flt]) rfl ⟨by rw [HE.out], by go_grown⟩
      · have hje : j = ids.length := by omega
        subst hje
        rw [List.drop_length] at HG
        have HE : Hid (idF l at_ n ids = (0, 0)) := hide (HF.out.trans (if_neg (by rw [← HG.out]; simp [idGo])))
        go_wp2_with fail
        exact bodyPost_ret (v := flt (0, 0)) (by simp [results, Try.results107, go_sem, flt]) rfl ⟨by rw [HE.out], by go_grown⟩
  · have HE := hide (show idF l at_ n ids = (3, -3) by rw [idF, hany, if_pos rfl])
    rw [hany] at HCF
    go_enter Try.func107, Try.ntmps107
    go_wp2_with (go_at_call 123; refine HCF.out.mono ?_; rintro e w' ⟨rfl, rfl⟩)
    exact bodyPost_ret (v := flt (3, -3)) (by simp [results, Try.results107, go_sem, flt]) rfl ⟨by rw [HE.out], by go_grown⟩

end Go.Proofs.Ytoeobhehjnkkkaa

/-
  slices.Grow's append of a make; lists of lists of structures. Nothing of a program stands here.
-/
namespace Go.Proofs.Ytoeobhehjnkkkaa
open Go.RowKit

theorem zeroCells_len (z : Array Value) (k : Nat) : (Builtin.zeroCells z k).size = k * z.size := by
  simp [Builtin.zeroCells]

/-- 'append([]T(nil), make([]T, n)...)', of which nothing is kept but the room. -/
theorem run_grow_nil {P : Program} (w : World) {t tn ty e : TypeId} {z : Value} {K bytes : Nat} (ht : P.underlying t = some (.slice e)) (htn : P.underlying tn = some (.int .i64)) (hinf : (P.info? e).map (fun i => (i.zero, i.size, i.bytes)) = some (some z, K, bytes)) (hzs : z.cells.size = K) (hK : 0 < K) (hbytes : bytes ≤ 128) (n : Nat) (h0 : 0 < n) (hn : n ≤ 1000000) :
    ∃ G w1, (Builtin.append_ #[t, tn] ty #[.slice none 0 0, .int .i64 n]).run P w = .ok (.slice (some ⟨w.heap.size, 0, none⟩) n G) w1 ∧ n ≤ G ∧ G ≤ maxLen ∧ w1.ownsRow w.heap.size e K (.slice (some ⟨w.heap.size, 0, none⟩) 0 G) 0 [] ∧ Below w.heap.size w w1 := by
  obtain ⟨i, hi, hz, hsize, hby⟩ := info_parts hinf
  have hb : n * bytes ≤ 1000000 * 128 := Nat.mul_le_mul hn hbytes
  have h := Lib.run_append_nil_zeros (P := P) w t tn ty e i z .i64 .i64 ht htn hi hz n h0 (by omega) (by omega) (by rw [hby]; omega)
  have hGn := grownCap_ge w n 0 e
  have hGm := grownCap_le_maxLen w n 0 e (by unfold maxLen; omega)
  refine ⟨_, _, h, hGn, hGm, ?_, (Below.drew (Below.refl _ _)).alloc (Nat.le_refl _) _⟩
  refine World.ownsRow_made w.drew _ _ (Nat.le_refl _) hGm ?_
  rw [Array.size_append, zeroCells_len, zeroCells_len, hzs, ← Nat.add_mul]
  congr 1
  omega

/-- The slice v reads as lists of structures. -/
def RdLG {α : Type} {K : Nat} (E : En α K) (w : World) (v : Value) (ls : List (List α)) : Prop :=
  ∃ us : List Value, Rd w v us ∧ us.length = ls.length ∧ ∀ (i : Nat) u l, us[i]? = some u → ls[i]? = some l → RdG E w u l

section
variable {α : Type} {K : Nat} {E : En α K}

theorem RdLG.shape {w : World} {v : Value} {ls : List (List α)} (h : RdLG E w v ls) : ∃ ao cap, v = .slice ao ls.length cap ∧ ls.length ≤ cap ∧ cap ≤ maxLen := by
  obtain ⟨us, h1, h2, _⟩ := h
  obtain ⟨ao, cap, h3, h4, h5⟩ := h1.shape
  rw [h2] at h3 h4
  exact ⟨ao, cap, h3, h4, h5⟩

theorem RdLG.below {w w' : World} {v : Value} {ls : List (List α)} (h : RdLG E w v ls) (hb : Below w.heap.size w w') : RdLG E w' v ls := by
  obtain ⟨us, h1, h2, h3⟩ := h
  exact ⟨us, h1.below hb, h2, fun i u l hu hl => (h3 i u l hu hl).below hb⟩

theorem RdLG.here {w : World} {ao : Option Addr} {n cap : Nat} {ls : List (List α)} (h : RdLG E w (.slice ao n cap) ls) {i : Nat} {l : List α} (hi : ls[i]? = some l) :
    ∃ b off u, ao = some ⟨b, off, none⟩ ∧ b < w.heap.size ∧ w.cell? ⟨b, off + i, none⟩ = some u ∧ RdG E w u l := by
  obtain ⟨us, h1, h2, h3⟩ := h
  have hl := (List.getElem?_eq_some_iff.1 hi).1
  obtain ⟨b, off, cap', hv, _, _, hb, hc⟩ := h1.pos (by omega)
  simp only [Value.slice.injEq] at hv
  obtain ⟨rfl, _, _⟩ := hv
  have hu : us[i]? = some (us[i]'(by omega)) := List.getElem?_eq_getElem _
  exact ⟨b, off, _, rfl, hb, hc i _ hu, h3 i _ l hu hi⟩

/-- A block of three slices that was laid for them. -/
theorem RdLG.three (w : World) (e : TypeId) {a b c : Value} {la lb lc : List α} (ha : RdG E w a la) (hb : RdG E w b lb) (hc : RdG E w c lc) :
    RdLG E (w.alloc (.cells #[a, b, c] e)) (.slice (some ⟨w.heap.size, 0, none⟩) 3 3) [la, lb, lc] := by
  refine ⟨[a, b, c], ⟨some ⟨w.heap.size, 0, none⟩, 3, rfl, Nat.le_refl _, by decide, (fun h => by cases h), fun ad had j v hv => ?_⟩, rfl, fun i u l hu hl => ?_⟩
  · cases had
    rw [Addr.add_lit, Nat.zero_add, ← hv]
    have := cell_of_row (w.alloc (.cells #[a, b, c] e)) w.heap.size j _ e (0, 0) (heap_alloc_new w _)
    rw [this]
    simp
  · match i, hu, hl with
    | 0, hu, hl => simp at hu hl; subst hu hl; exact ha.alloc _
    | 1, hu, hl => simp at hu hl; subst hu hl; exact hb.alloc _
    | 2, hu, hl => simp at hu hl; subst hu hl; exact hc.alloc _

end

end Go.Proofs.Ytoeobhehjnkkkaa

/-
  The walks over slices.Grow and Concat of parts, and parts.replaced.
-/
namespace Go.Proofs.Ytoeobhehjnkkkaa
open Go.RowKit
set_option linter.unusedVariables false

set_option maxRecDepth 100000 in
set_option maxHeartbeats 1000000 in
theorem growP_any (n : Nat) (w : World) (hn : n ≤ 1000000) :
    Calls Try.prog 139 #[.slice none 0 0, .int .i64 n] w fun e w' => ∃ v', e = .returned v' ∧ w'.ownsRow w.heap.size 44 3 v' 0 (pE.vs []) ∧ Below w.heap.size w w' := by
  by_cases h0 : n = 0
  · subst h0
    go_enter Try.func139, Try.ntmps139
    go_wp2_with fail
    go_ret
    exact ⟨_, rfl, World.ownsRow_nil _ _ _ _, Below.refl _ _⟩
  · obtain ⟨G, w1, hr, hg1, hg2, hown, hbel⟩ := run_grow_nil (P := Try.prog) w (ty := 89) Try.underlying89 Try.underlying3 infoPart rfl (by decide) (by decide) n (by omega) hn
    have hs1 := run_slice_uptoK (K := 3) (P := Try.prog) Try.underlying89 (by kernel_rfl) infoPart none 0 0 0 (0 : Int) rfl (Nat.le_refl _)
    have hs2 := run_slice_uptoK (K := 3) (P := Try.prog) Try.underlying89 (by kernel_rfl) infoPart (some ⟨w.heap.size, 0, none⟩) n G 0 (0 : Int) rfl (Nat.zero_le _)
    have e1 : Go.sliced none 0 0 0 3 = .slice none 0 0 := rfl
    have e2 : Go.sliced (some ⟨w.heap.size, 0, none⟩) 0 0 G 3 = .slice (some ⟨w.heap.size, 0, none⟩) 0 G := by unfold Go.sliced; split <;> simp [Addr.add]
    rw [e1] at hs1
    rw [e2] at hs2
    have h1 : (0 : Int) < (n : Int) := by omega
    unfold maxLen at hg2
    clear e1 e2
    go_enter Try.func139, Try.ntmps139
    go_wp2_with (at_builtin; refine Lib.wpList_append_run _ rfl _ _ _ _ rfl _ _ rfl rfl _ _ hr ?_)
    go_ret
    exact ⟨_, rfl, hown, hbel⟩

/-- How many there are in the first lists. -/
def tlenP (ls : List (List Pt)) : Nat := ls.flatten.length

theorem take_flat {ls : List (List Pt)} {k : Nat} {l : List Pt} (h : ls[k]? = some l) : (ls.take (k + 1)).flatten = (ls.take k).flatten ++ l := by
  obtain ⟨hl, rfl⟩ := List.getElem?_eq_some_iff.1 h
  rw [List.take_succ_eq_append_getElem hl, List.flatten_append]
  simp

theorem flat_le {ls : List (List Pt)} (k : Nat) : (ls.take k).flatten.length ≤ ls.flatten.length := by
  have : ls.flatten = (ls.take k).flatten ++ (ls.drop k).flatten := by rw [← List.flatten_append, List.take_append_drop]
  rw [this, List.length_append]
  omega

set_option maxRecDepth 100000 in
set_option maxHeartbeats 2000000 in
theorem concatP_any (v : Value) (ls : List (List Pt)) (w : World) (hv : RdLG pE w v ls) (hl : ls.flatten.length ≤ 100000) :
    Calls Try.prog 125 #[v] w fun e w' => ∃ v', e = .returned v' ∧ RdG pE w' v' ls.flatten ∧ Below w.heap.size w w' ∧ New w.heap.size v' := by
  obtain ⟨ao, cap, hvv, hc1, hc2⟩ := hv.shape
  subst hvv
  unfold maxLen at hc2
  go_enter Try.func125, Try.ntmps125
  go_wp2_with fail
  go_loop [3, 11] (fun sv iv => ∃ (j : Nat), j ≤ ls.length ∧ iv = .int .i64 j ∧ sv = .int .i64 ((ls.take j).flatten.length))
    (fun _ iv => ls.length - (intOf iv).toNat)
  case atStart => exact ⟨0, by omega, rfl, by simp⟩
  case round =>
    obtain ⟨j, hj, rfl, rfl⟩ := hrel
    have hle := flat_le (ls := ls) j
    generalize hN : (ls.take j).flatten.length = N at *
    by_cases hlt : j < ls.length
    · obtain ⟨l, hx⟩ : ∃ x, ls[j]? = some x := ⟨_, List.getElem?_eq_getElem hlt⟩
      obtain ⟨b, off, u, rfl, hb, hc, hru⟩ := hv.here hx
      obtain ⟨uo, uc, huu, hu1, hu2⟩ := hru.shape
      subst huu
      have hk1 : (0 : Int) ≤ (j : Int) := by omega
      have hk2 : (j : Int) < (ls.length : Int) := by omega
      have hle2 := flat_le (ls := ls) (j + 1)
      have HT := hide (show (ls.take (j + 1)).flatten.length = N + l.length by rw [take_flat hx, List.length_append, hN])
      have hsm : N + l.length ≤ 100000 := by rw [← HT.out]; omega
      have hnn : ¬ ((N : Int) + (l.length : Int) < 0) := by omega
      clear hN hx hle hle2
      go_wp2_with fail
      go_round
      case rel => exact ⟨j + 1, by omega, by go_num, by rw [HT.out]; go_num⟩
      case measure => simp [intOf]; omega
    · have hje : j = ls.length := by omega
      subst hje
      rw [List.take_length] at hN
      have hN2 : N ≤ 1000000 := by omega
      have HN := hide hN
      clear hN hle
      go_wp2_with fail
      refine (growP_any N _ hN2).mono ?_
      rintro e w1 ⟨v1, rfl, hown1, hb1⟩
      obtain ⟨vo, vc, hvs⟩ : ∃ ao cap, v1 = .slice ao 0 cap := by
        rcases hown1.2 with ⟨rfl, hn⟩ | ⟨g, cap, cur, rfl, _⟩
        · exact ⟨none, 0, rfl⟩
        · exact ⟨_, _, rfl⟩
      subst hvs
      go_wp2_with fail
      go_loopw [6, 27] (fun sv iv wr => ∃ (j : Nat) (s : Value), j ≤ ls.length ∧ iv = .int .i64 j ∧ s = sv ∧ wr.ownsRow w.heap.size 44 3 s (ls.take j).flatten.length (pE.vs (ls.take j).flatten) ∧ Below w.heap.size w wr)
        (fun _ iv _ => ls.length - (intOf iv).toNat)
      case atStart => exact ⟨0, _, by omega, rfl, rfl, by simpa using hown1, hb1⟩
      case round =>
        obtain ⟨j, s, hj, rfl, rfl, hown, hbel⟩ := hrel
        have hle := flat_le (ls := ls) j
        by_cases hlt : j < ls.length
        · obtain ⟨l, hx⟩ : ∃ x, ls[j]? = some x := ⟨_, List.getElem?_eq_getElem hlt⟩
          obtain ⟨b, off, u, rfl, hb, hc, hru⟩ := (hv.below hbel).here hx
          obtain ⟨uo, uc, huu, hu1, hu2⟩ := hru.shape
          subst huu
          have hk1 : (0 : Int) ≤ (j : Int) := by omega
          have hk2 : (j : Int) < (ls.length : Int) := by omega
          have hle2 := flat_le (ls := ls) (j + 1)
          have HT := hide (take_flat hx)
          rw [take_flat hx, List.length_append] at hle2
          generalize (ls.take j).flatten = F at *
          obtain ⟨so, sc, hso⟩ : ∃ ao cap, s = .slice ao F.length cap := by
            rcases hown.2 with ⟨rfl, hn⟩ | ⟨g, cap, cur, rfl, _⟩
            · exact ⟨none, 0, by rw [hn]⟩
            · exact ⟨_, _, rfl⟩
          subst hso
          have h63 : F.length + l.length ≤ 1000000000 := by omega
          have hbs := hbel.size
          clear hx
          go_wp2_with (at_builtin; go_must (refine wpList_append_rdG hown hru Try.underlying89 infoPart rfl rfl rfl rfl rfl h63 (by decide) hbs ?_); intro v2 w2 hown2 hb2 hg2; clear hg2)
          go_roundw
          case rel => exact ⟨j + 1, _, by omega, by go_num, rfl, by rw [HT.out, List.length_append]; exact hown2, hbel.trans hb2⟩
          case measure => simp [intOf]; omega
        · have hje : j = ls.length := by omega
          subst hje
          rw [List.take_length] at hown
          go_wp2_with fail
          go_ret
          exact ⟨_, rfl, RdG.ofOwns hown, hbel, New.owns hown⟩

set_option maxRecDepth 100000 in
set_option maxHeartbeats 2000000 in
theorem replaced_any (v o : Value) (l os : List Pt) (a b : Nat) (A B : Int) (w : World) (hv : RdG pE w v l) (ho : RdG pE w o os) (hA : A = a) (hB : B = b) (hab : a ≤ l.length) (hbl : b ≤ l.length) (hl : l.length ≤ 1000) (hol : os.length ≤ 1000) :
    Calls Try.prog 108 #[v, .int .i64 A, .int .i64 B, o] w fun e w' => ∃ v', e = .returned v' ∧ RdG pE w' v' (l.take a ++ os ++ l.drop b) ∧ Below w.heap.size w w' ∧ New w.heap.size v' := by
  obtain ⟨ao, cap, hvv, hc1, hc2⟩ := hv.shape
  obtain ⟨oo, oc, hoo, hc3, hc4⟩ := ho.shape
  subst hvv hoo hA hB
  unfold maxLen at hc2 hc4
  have hi1 : (a : Int) ≤ (l.length : Int) := by omega
  have hi2 : (b : Int) ≤ (l.length : Int) := by omega
  have hi3 : (a : Int) ≤ (cap : Int) := by omega
  have hs1 := run_slice_uptoK (K := 3) (P := Try.prog) Try.underlying89 (by kernel_rfl) infoPart ao l.length cap a a rfl (by omega)
  have hs2 := run_slice_fromK (K := 3) (P := Try.prog) Try.underlying89 (by kernel_rfl) infoPart ao l.length cap b b rfl hbl
  have hr1 := hv.upto (hi := a) hab
  have hr2 := hv.from (lo := b) hbl
  obtain ⟨x1, hx1⟩ : ∃ x, Go.sliced ao 0 a cap 3 = x := ⟨_, rfl⟩
  obtain ⟨x2, hx2⟩ : ∃ x, Go.sliced ao b l.length cap 3 = x := ⟨_, rfl⟩
  rw [hx1] at hs1 hr1
  rw [hx2] at hs2 hr2
  obtain ⟨y1, z1, hy1, _, _⟩ := hr1.shape
  obtain ⟨y2, z2, hy2, _, _⟩ := hr2.shape
  subst hy1 hy2
  have hll : RdLG pE (w.drew.alloc (.cells #[.slice y1 (l.take a).length z1, .slice oo os.length oc, .slice y2 (l.drop b).length z2] 89)) (.slice (some ⟨w.drew.heap.size, 0, none⟩) 3 3) [l.take a, os, l.drop b] := RdLG.three w.drew _ hr1.drew ho.drew hr2.drew
  have HLL := hide (concatP_any _ _ _ hll (by simp; omega))
  have HBA := hide (show Below w.heap.size w (w.drew.alloc (.cells #[.slice y1 (l.take a).length z1, .slice oo os.length oc, .slice y2 (l.drop b).length z2] 89)) by go_grown)
  rw [show [l.take a, os, l.drop b].flatten = l.take a ++ os ++ l.drop b by simp] at HLL
  clear hx1 hx2 hr1 hr2 hll hv ho
  generalize l.take a = L1 at *
  generalize l.drop b = L2 at *
  go_enter Try.func108, Try.ntmps108
  go_wp2_with fail
  go_region_held3 (fun _ => True) (trivial) (first
    | (go_at_call 125; refine HLL.out.mono ?_; rintro e w2 ⟨v2, rfl, hr2, hb2, hn2⟩))
  all_goals
    go_wp2_with fail
    go_ret
    exact ⟨_, rfl, hr2, HBA.out.trans (hb2.mono (by simp)), hn2.mono (by simp)⟩

end Go.Proofs.Ytoeobhehjnkkkaa

/-
  The walks over parts.Check, Split and Join.
-/
namespace Go.Proofs.Ytoeobhehjnkkkaa
open Go.RowKit
set_option linter.unusedVariables false

set_option maxRecDepth 100000 in
set_option maxHeartbeats 1000000 in
theorem PCheck_any (v : Value) (l : List Pt) (w : World) (hv : RdG pE w v l) (hwf : WfP l) :
    Calls Try.prog 99 #[v] w fun e w' => e = .returned (flt (chkP l)) ∧ Below w.heap.size w w' := by
  have HN := hide (numbered_any v l _ (hv.alloc (.cells #[.int .i64 0, .int .i64 0] 30)) hwf)
  obtain ⟨ao, cap, hvv, hc1, hc2⟩ := hv.shape
  subst hvv
  go_enter Try.func99, Try.ntmps99
  go_wp2_with fail
  refine HN.out.mono ?_
  rintro e w1 ⟨m, rfl, hb1, _⟩
  have hF1 := (Blk.new w 30 #[.int .i64 0, .int .i64 0]).later hb1
  have hbw1 : Below w.heap.size w w1 := (below_allocG _ _).trans (hb1.mono (by simp))
  have f0 := hF1.cell 0
  have f1 := hF1.cell 1
  have g0 := hF1.frozen 0
  have g1 := hF1.frozen 1
  have hfl := hF1.lt
  simp at f0 f1
  generalize hC : chkP l = C at *
  have HC := hide hC
  clear hC
  obtain ⟨x, y⟩ := C
  unfold flt
  go_wp2_with fail
  all_goals
    exact bodyPost_ret (v := flt (x, y)) (by simp [results, Try.results99, go_sem, flt, f0, f1, hfl]) rfl ⟨by rw [HC.out], by go_grown⟩

/-- What a split leaves. -/
def splitR (l : List Pt) (at_ : Int) (row : ByteArray) (left right : Int) : List Pt := if (splitF l at_ row left right).1 = 0 then splitL l at_.toNat row left right else []

def joinR (l : List Pt) (at_ id : Int) : List Pt := if (joinF l at_ id).1 = 0 then joinL l at_.toNat id else []

theorem RdG.store2 {w : World} {v : Value} {cs : List Pt} {B F : Nat} (h : RdG pE w v cs) (hn : New B v) (hF : F < B) (x y : Value) : RdG pE ((w.setCell ⟨F, 0, none⟩ x).setCell ⟨F, 1, none⟩ y) v cs :=
  (h.setNew hn (p := ⟨F, 0, none⟩) hF x).setNew hn (p := ⟨F, 1, none⟩) hF y

set_option maxRecDepth 100000 in
set_option maxHeartbeats 4000000 in
theorem Split_any (v : Value) (l : List Pt) (at_ : Int) (row : ByteArray) (left right : Int) (w : World) (hv : RdG pE w v l) (hwf : WfP l) :
    Calls Try.prog 95 #[v, .int .i64 at_, .string row, .int .i64 left, .int .i64 right] w fun e w' => ∃ v', e = .returned (.tuple #[v', flt (splitF l at_ row left right)]) ∧ RdG pE w' v' (splitR l at_ row left right) ∧ Below w.heap.size w w' ∧ New w.heap.size v' := by
  have HV := hide hv
  have HN := hide (numbered_any v l _ (hv.alloc (.cells #[.int .i64 0, .int .i64 0] 30)) hwf)
  obtain ⟨ao, cap, hvv, hc1, hc2⟩ := hv.shape
  subst hvv
  unfold maxLen at hc2
  have HEND : Hid (∀ (c a : Int), splitF l at_ row left right = (c, a) → c ≠ 0 → splitR l at_ row left right = []) := hide fun c a h h0 => by
    unfold splitR
    rw [h, if_neg h0]
  go_enter Try.func95, Try.ntmps95
  go_wp2_with fail
  refine HN.out.mono ?_
  rintro e w1 ⟨m, rfl, hb1, hm⟩
  rw [show (w.alloc (.cells #[.int .i64 0, .int .i64 0] 30)).heap.size + 1 = w.heap.size + 1 + 1 by simp] at hm
  have hF1 := (Blk.new w 30 #[.int .i64 0, .int .i64 0]).later hb1
  have hbw1 : Below w.heap.size w w1 := (below_allocG _ _).trans (hb1.mono (by simp))
  have hs1 : w.heap.size + 1 ≤ w1.heap.size := by have := hb1.size; simpa using this
  have HV1 := hide (HV.out.below hbw1)
  have f0 := hF1.cell 0
  have f1 := hF1.cell 1
  have g0 := hF1.frozen 0
  have g1 := hF1.frozen 1
  have hfl := hF1.lt
  simp at f0 f1
  clear hb1
  rcases hm with ⟨rfl, hne⟩ | ⟨rfl, hz, hM⟩
  · have HE : Hid (splitF l at_ row left right = chkP l) := hide (by unfold splitF; rw [if_pos hne])
    generalize chkP l = C at *
    obtain ⟨x, y⟩ := C
    have hne' : x ≠ 0 := hne
    have HL := hide (HEND.out x y HE.out hne')
    have hcb : (x == 0) = false := beq_eq_false_iff_ne.2 hne'
    have hcb2 : (x != 0) = true := by simp [hne']
    clear hne hne'
    unfold flt
    go_wp2_with fail
    go_region
    all_goals
      go_wp2_with fail
      exact bodyPost_ret (v := .tuple #[.slice none 0 0, flt (x, y)]) (by simp [results, Try.results95, go_sem, flt, f0, f1, hfl]) rfl ⟨_, by rw [HE.out], by rw [HL.out]; exact RdG.nil _, by go_grown, New.nil _⟩
  · have hfine := chkP_fine.1 hz
    have HFN := hide hfine
    rw [chkP_ok hfine]
    have HS : Hid (splitF l at_ row left right = if at_ < 0 ∨ (l.length : Int) ≤ at_ then (3, -1) else
        if 40 < row.size then (8, -2)
        else if row.toList = (l.getD at_.toNat zeroPt).fr.toList ∨ inB row (l.getD at_.toNat zeroPt).fr (l.getD at_.toNat zeroPt).to_ = false then (5, -2)
        else if numB left = false ∨ numB right = false then (3, -3)
        else if left = right ∨ hasID l at_.toNat 1 left = true ∨ hasID l at_.toNat 1 right = true then (10, -3)
        else if l.length = 200 then (2, -1)
        else (0, 0)) := hide (by unfold splitF; rw [if_neg (by rw [hz]; simp)])
    have hl200 := hfine.1
    clear hfine hz
    unfold flt
    by_cases hr : at_ < 0 ∨ (l.length : Int) ≤ at_
    · have HE := hide (HS.out.trans (if_pos hr))
      have HL := hide (HEND.out _ _ HE.out (by decide))
      by_cases h0 : at_ < 0
      · have hd : decide (at_ < 0) = true := decide_eq_true h0
        go_wp2_with fail
        exact bodyPost_ret (v := .tuple #[.slice none 0 0, flt (3, -1)]) (by simp [results, Try.results95, go_sem, flt, f0, f1, hfl]) rfl ⟨_, by rw [HE.out], by rw [HL.out]; exact RdG.nil _, by go_grown, New.nil _⟩
      · have hd : decide (at_ < 0) = false := decide_eq_false h0
        have h1 : (l.length : Int) ≤ at_ := by omega
        go_wp2_with fail
        exact bodyPost_ret (v := .tuple #[.slice none 0 0, flt (3, -1)]) (by simp [results, Try.results95, go_sem, flt, f0, f1, hfl]) rfl ⟨_, by rw [HE.out], by rw [HL.out]; exact RdG.nil _, by go_grown, New.nil _⟩
    · have HS := hide (HS.out.trans (if_neg hr))
      obtain ⟨k, hk⟩ : ∃ k : Nat, at_ = k := ⟨at_.toNat, by omega⟩
      subst hk
      have hkl : k < l.length := by omega
      rw [Int.toNat_natCast] at HS
      have hd1 : decide ((k : Int) < 0) = false := decide_eq_false (by omega)
      have hd2 : ¬ (l.length : Int) ≤ (k : Int) := by omega
      have hk1 : (0 : Int) ≤ (k : Int) := by omega
      have hk2 : (k : Int) < (l.length : Int) := by omega
      obtain ⟨p, hp⟩ : ∃ p, l[k]? = some p := ⟨_, List.getElem?_eq_getElem hkl⟩
      have hgd : l.getD k zeroPt = p := by rw [List.getD_eq_getElem?_getD, hp]; rfl
      obtain ⟨b, off, rfl, hb, hat⟩ := HV1.out.here hp
      rw [hgd] at HS
      have HGD := hide hgd
      have hb' : b < w1.heap.size := hb
      obtain ⟨c0, c1, c2⟩ := hat.part
      clear hr hp hat hgd
      have hP1 : Blk ((w1.alloc (.cells #[.int .i64 0, .int .i64 0] 30)).alloc (.cells #[.string p.fr, .string p.to_, .int .i64 p.id] 44)) (w1.heap.size + 1) 44 #[.string p.fr, .string p.to_, .int .i64 p.id] := by
        have := Blk.new (w1.alloc (.cells #[.int .i64 0, .int .i64 0] 30)) 44 #[.string p.fr, .string p.to_, .int .i64 p.id]
        simpa using this
      have hbA : Below w1.heap.size w1 ((w1.alloc (.cells #[.int .i64 0, .int .i64 0] 30)).alloc (.cells #[.string p.fr, .string p.to_, .int .i64 p.id] 44)) := by go_grown
      have HPA := hide hP1
      have HBA := hide hbA
      clear hP1 hbA
      go_wp2_with fail
      refine (rowFault_any p row _).mono ?_
      rintro e w2 ⟨rfl, hb2⟩
      have hb12 : Below w1.heap.size w1 w2 := HBA.out.trans (hb2.mono (by simp; omega))
      have hF2 := hF1.later hb12
      have hP2 := HPA.out.later hb2
      have hM2 := hM.later hb12
      have hV2 := HV1.out.below hb12
      have hbw2 := hbw1.trans (hb12.mono hbw1.size)
      have hz2 : w1.heap.size + 1 < w2.heap.size := hP2.lt
      have f0' := hF2.cell 0
      have f1' := hF2.cell 1
      have g0' := hF2.frozen 0
      have g1' := hF2.frozen 1
      have p0 := hP2.cell 0
      have p1 := hP2.cell 1
      simp at f0' f1' p0 p1
      have hfl2 := hF2.lt
      clear c0 c1 c2 f0 f1 g0 g1 hb2 hF1 hfl HPA HBA
      by_cases h1 : rowF p row = (0, 0)
      · rw [h1]
        have h11 : ¬ 40 < row.size := by
          intro h; rw [rowF, if_pos h] at h1; cases h1
        have h12 : ¬ (row.toList = p.fr.toList ∨ inB row p.fr p.to_ = false) := by
          intro h; rw [rowF, if_neg h11, if_pos h] at h1; cases h1
        have HS := hide (HS.out.trans ((if_neg h11).trans (if_neg h12)))
        clear h1 h11 h12
        have hI3 : Rd ((w2.alloc (.cells #[.int .i64 0, .int .i64 0] 30)).alloc (.cells #[.int .i64 left, .int .i64 right] 3)) (.slice (some ⟨w2.heap.size + 1, 0, none⟩) 2 2) (ic [left, right]) := by
          have := Rd.newL (w2.alloc (.cells #[.int .i64 0, .int .i64 0] 30)) #[.int .i64 left, .int .i64 right] 3 (by simp)
          simpa [ic] using this
        have hbB : Below w2.heap.size w2 ((w2.alloc (.cells #[.int .i64 0, .int .i64 0] 30)).alloc (.cells #[.int .i64 left, .int .i64 right] 3)) := by go_grown
        have HID := hide (idFault_any _ _ l k 1 ((k : Int) + 1) [left, right] _ (hM2.later hbB) HFN.out hI3 rfl (by omega))
        have HBB := hide hbB
        clear hI3 hbB
        unfold flt
        go_wp2_with fail
        refine HID.out.mono ?_
        rintro e w3 ⟨rfl, hb3⟩
        have hb23 : Below w2.heap.size w2 w3 := HBB.out.trans (hb3.mono (by simp; omega))
        have hF3 := hF2.later hb23
        have hP3 := hP2.later hb23
        have hV3 := hV2.below hb23
        have hbw3 := hbw2.trans (hb23.mono hbw2.size)
        have hz3 : w2.heap.size + 1 < w3.heap.size := by have := hb3.size; simp at this; omega
        have f0'' := hF3.cell 0
        have f1'' := hF3.cell 1
        have g0'' := hF3.frozen 0
        have g1'' := hF3.frozen 1
        have p0' := hP3.cell 0
        have p1' := hP3.cell 1
        simp at f0'' f1'' p0' p1'
        have hfl3 := hF3.lt
        have hpl3 := hP3.lt
        have hpl4 : w1.heap.size < w3.heap.size := by omega
        have hpl5 : w1.heap.size < w3.heap.size + 1 := by omega
        clear f0' f1' g0' g1' p0 p1 hb3 hF2 hP2 hfl2 HBB
        have hidc : idF l k 1 [left, right] = if numB left = false ∨ numB right = false then (3, -3) else if left = right ∨ hasID l k 1 left = true ∨ hasID l k 1 right = true then (10, -3) else (0, 0) := by
          unfold idF
          have e1 : ([left, right].any fun x => !numB x) = true ↔ numB left = false ∨ numB right = false := by simp
          have e2 : idGo l k 1 [] [left, right] = true ↔ left = right ∨ hasID l k 1 left = true ∨ hasID l k 1 right = true := by
            simp only [idGo, List.any_nil, List.nil_append, List.any_cons, Bool.or_false, Bool.or_eq_true, beq_iff_eq]
            constructor
            · rintro (h | h | h)
              · exact .inr (.inl h)
              · exact .inr (.inr h)
              · exact .inl h.symm
            · rintro (h | h | h)
              · exact .inr (.inr h.symm)
              · exact .inl h
              · exact .inr (.inl h)
          simp only [e1, e2]
        by_cases h2 : idF l k 1 [left, right] = (0, 0)
        · rw [h2]
          have HS2 : Hid (splitF l k row left right = if l.length = 200 then (2, -1) else (0, 0)) := hide (by
            rw [HS.out]
            by_cases g1 : numB left = false ∨ numB right = false
            · rw [hidc, if_pos g1] at h2; cases h2
            · by_cases g2 : left = right ∨ hasID l k 1 left = true ∨ hasID l k 1 right = true
              · rw [hidc, if_neg g1, if_pos g2] at h2; cases h2
              · rw [if_neg g1, if_neg g2])
          clear h2 hidc
          unfold flt
          by_cases h200 : l.length = 200
          · have HE := hide (HS2.out.trans (if_pos h200))
            have HL := hide (HEND.out _ _ HE.out (by decide))
            have hlb : ((l.length : Int) == 200) = true := by simp; omega
            clear h200
            go_wp2_with fail
            exact bodyPost_ret (v := .tuple #[.slice none 0 0, flt (2, -1)]) (by simp [results, Try.results95, go_sem, flt, f0'', f1'', hfl3]) rfl ⟨_, by rw [HE.out], by rw [HL.out]; exact RdG.nil _, by go_grown, New.nil _⟩
          · have HE := hide (HS2.out.trans (if_neg h200))
            have HL : Hid (splitR l k row left right = l.take k ++ [⟨p.fr, row, left⟩, ⟨row, p.to_, right⟩] ++ l.drop (k + 1)) := hide (by
              unfold splitR
              rw [HE.out, if_pos rfl, Int.toNat_natCast, splitL, HGD.out])
            have hlb : ((l.length : Int) == 200) = false := beq_eq_false_iff_ne.2 (by omega)
            have hW : Below w3.heap.size w3 ((((w3.alloc (.cells #[.int .i64 0, .int .i64 0] 30)).alloc (.cells #[.string p.fr, .string row, .int .i64 left] 44)).alloc (.cells #[.string row, .string p.to_, .int .i64 right] 44)).alloc (.cells #[.string p.fr, .string row, .int .i64 left, .string row, .string p.to_, .int .i64 right] 44)) := by go_grown
            have hO : RdG pE ((((w3.alloc (.cells #[.int .i64 0, .int .i64 0] 30)).alloc (.cells #[.string p.fr, .string row, .int .i64 left] 44)).alloc (.cells #[.string row, .string p.to_, .int .i64 right] 44)).alloc (.cells #[.string p.fr, .string row, .int .i64 left, .string row, .string p.to_, .int .i64 right] 44)) (.slice (some ⟨w3.heap.size + 1 + 1 + 1, 0, none⟩) 2 2) [⟨p.fr, row, left⟩, ⟨row, p.to_, right⟩] := by
              have := RdG.newL (E := pE) (((w3.alloc (.cells #[.int .i64 0, .int .i64 0] 30)).alloc (.cells #[.string p.fr, .string row, .int .i64 left] 44)).alloc (.cells #[.string row, .string p.to_, .int .i64 right] 44)) [⟨p.fr, row, left⟩, ⟨row, p.to_, right⟩] 44 #[.string p.fr, .string row, .int .i64 left, .string row, .string p.to_, .int .i64 right] rfl (by simp)
              simpa using this
            have HRP := hide (replaced_any _ _ l _ k (k + 1) (k : Int) ((k : Int) + 1) _ (hV3.below hW) hO rfl (by omega) (by omega) (by omega) (by omega) (by simp))
            have HW := hide hW
            clear hW hO h200
            go_wp2_with fail
            refine HRP.out.mono ?_
            rintro e w4 ⟨v4, rfl, hr4, hb4, hn4⟩
            have hb34 : Below w3.heap.size w3 w4 := HW.out.trans (hb4.mono (by simp; omega))
            have hF4 := hF3.later hb34
            have hbw4 := hbw3.trans (hb34.mono hbw3.size)
            have q0 := hF4.cell 0
            have q1 := hF4.cell 1
            have r0 := hF4.frozen 0
            have r1 := hF4.frozen 1
            have hfl4 := hF4.lt
            have hn5 : New w3.heap.size v4 := hn4.mono (by simp; omega)
            simp at q0 q1
            obtain ⟨vo, vc, hvo, _, _⟩ := hr4.shape
            generalize (l.take k ++ [⟨p.fr, row, left⟩, ⟨row, p.to_, right⟩] ++ l.drop (k + 1) : List Pt) = LL at *
            subst hvo
            clear hb4 hn4 f0'' f1'' g0'' g1'' hF3 p0' p1'
            go_wp2_with fail
            exact bodyPost_ret (v := .tuple #[.slice vo LL.length vc, flt (0, 0)]) (by simp [results, Try.results95, go_sem, flt, q0, q1]) rfl ⟨_, by rw [HE.out], by rw [HL.out]; exact hr4.store2 hn5 (by omega) _ _, by go_grown, hn5.mono (by omega)⟩
        · have HE : Hid (splitF l k row left right = idF l k 1 [left, right]) := hide (by
            rw [HS.out]
            by_cases g1 : numB left = false ∨ numB right = false
            · rw [hidc, if_pos g1, if_pos g1]
            · by_cases g2 : left = right ∨ hasID l k 1 left = true ∨ hasID l k 1 right = true
              · rw [hidc, if_neg g1, if_pos g2, if_neg g1, if_pos g2]
              · exact absurd (by rw [hidc, if_neg g1, if_neg g2]) h2)
          have hne : (idF l k 1 [left, right]).1 ≠ 0 := by
            intro h
            apply h2
            rw [hidc] at h ⊢
            split at h
            · cases h
            · split at h
              · cases h
              · rename_i h2 h3
                rw [if_neg h2, if_neg h3]
          clear hidc
          generalize idF l k 1 [left, right] = C at *
          obtain ⟨x, y⟩ := C
          have hne' : x ≠ 0 := hne
          have HL := hide (HEND.out x y HE.out hne')
          have hcb : (x == 0) = false := beq_eq_false_iff_ne.2 hne'
          have hcb2 : (x != 0) = true := by simp [hne']
          clear hne hne' h2
          unfold flt
          go_wp2_with fail
          go_region
          all_goals
            go_wp2_with fail
            exact bodyPost_ret (v := .tuple #[.slice none 0 0, flt (x, y)]) (by simp [results, Try.results95, go_sem, flt, f0'', f1'', hfl3]) rfl ⟨_, by rw [HE.out], by rw [HL.out]; exact RdG.nil _, by go_grown, New.nil _⟩
      · have HE : Hid (splitF l k row left right = rowF p row) := hide (by
          rw [HS.out]
          by_cases h11 : 40 < row.size
          · rw [if_pos h11, rowF, if_pos h11]
          · rw [if_neg h11]
            by_cases h12 : row.toList = p.fr.toList ∨ inB row p.fr p.to_ = false
            · rw [if_pos h12, rowF, if_neg h11, if_pos h12]
            · exact absurd (by rw [rowF, if_neg h11, if_neg h12]) h1)
        have hne : (rowF p row).1 ≠ 0 := by
          intro h
          apply h1
          unfold rowF at h ⊢
          split at h
          · cases h
          · split at h
            · cases h
            · rename_i h2 h3
              rw [if_neg h2, if_neg h3]
        generalize rowF p row = C at *
        obtain ⟨x, y⟩ := C
        have hne' : x ≠ 0 := hne
        have HL := hide (HEND.out x y HE.out hne')
        have hcb : (x == 0) = false := beq_eq_false_iff_ne.2 hne'
        have hcb2 : (x != 0) = true := by simp [hne']
        clear hne hne' h1
        unfold flt
        go_wp2_with fail
        go_region
        all_goals
          go_wp2_with fail
          exact bodyPost_ret (v := .tuple #[.slice none 0 0, flt (x, y)]) (by simp [results, Try.results95, go_sem, flt, f0', f1', hfl2]) rfl ⟨_, by rw [HE.out], by rw [HL.out]; exact RdG.nil _, by go_grown, New.nil _⟩

end Go.Proofs.Ytoeobhehjnkkkaa

/-
  Plain maths of boards: hosts, slots, what Check says. Nothing of a program stands here.
-/
namespace Go.Proofs.Ytoeobhehjnkkkaa
open Go.RowKit
set_option linter.unusedVariables false

/-- A host. -/
structure Ho where
  id : Int
  ep : Int
  al : Bool

/-- A slot. -/
structure Sl where
  p : Pt
  st : Int
  ho : Int
  tu : Int

/-- A board. -/
structure Bd where
  hs : List Ho
  sl : List Sl
  tu : Int
  nx : Int

def zeroHo : Ho := ⟨0, 0, false⟩
def zeroSl : Sl := ⟨zeroPt, 0, 0, 0⟩
def zeroBd : Bd := ⟨[], [], 0, 0⟩
def newBd : Bd := ⟨[], [⟨⟨⟨#[]⟩, ⟨#[]⟩, 1⟩, 0, 0, 0⟩], 0, 2⟩

/-- How a host lies in memory. -/
def hoE : En Ho 3 where
  v h := [.int .i64 h.id, .int .i64 h.ep, .bool h.al]
  len _ := rfl
  one h u hu := by
    simp only [List.mem_cons, List.not_mem_nil, or_false] at hu
    rcases hu with rfl | rfl | rfl <;> rfl
  pos := by decide

/-- How a slot lies in memory. -/
def slE : En Sl 6 where
  v s := [.string s.p.fr, .string s.p.to_, .int .i64 s.p.id, .int .i64 s.st, .int .i64 s.ho, .int .i64 s.tu]
  len _ := rfl
  one s u hu := by
    simp only [List.mem_cons, List.not_mem_nil, or_false] at hu
    rcases hu with rfl | rfl | rfl | rfl | rfl | rfl <;> rfl
  pos := by decide

/-- From 1 to the greatest number. -/
def oneB (n : Int) : Bool := decide (0 < n) && numB n

theorem oneB_iff {n : Int} : oneB n = true ↔ 1 ≤ n ∧ n ≤ 1000000000 := by
  unfold oneB numB
  simp
  omega

/-! ### Hosts -/

/-- Has one of the first i hosts the ID? -/
def hoAhead (l : List Ho) (i : Nat) (n : Int) : Bool := (l.take i).any fun h => decide (h.id = n)

def codeH (l : List Ho) (i : Nat) : Int :=
  let h := l.getD i zeroHo
  if oneB h.id = false ∨ oneB h.ep = false then 3 else if hoAhead l i h.id then 10 else 0

def chkHGo (l : List Ho) : Nat → Nat → Int × Int
  | 0, _ => (0, 0)
  | n + 1, i => if codeH l i = 0 then chkHGo l n (i + 1) else (codeH l i, i)

/-- What is wrong with hosts. -/
def chkH (l : List Ho) : Int × Int := if 20 < l.length then (2, -1) else chkHGo l l.length 0

theorem chkHGo_ok {l : List Ho} {n i : Nat} (h : codeH l i = 0) : chkHGo l (n + 1) i = chkHGo l n (i + 1) := by rw [chkHGo, if_pos h]
theorem chkHGo_no {l : List Ho} {n i : Nat} (h : ¬ codeH l i = 0) : chkHGo l (n + 1) i = (codeH l i, (i : Int)) := by rw [chkHGo, if_neg h]

theorem chkHGo_zero {l : List Ho} : ∀ {n i : Nat}, (chkHGo l n i).1 = 0 → ∀ j, j < n → codeH l (i + j) = 0
  | 0, _, _, _, hj => by omega
  | n + 1, i, h, j, hj => by
    by_cases h0 : codeH l i = 0
    · rw [chkHGo_ok h0] at h
      cases j with
      | zero => exact h0
      | succ j =>
        have := chkHGo_zero h j (by omega)
        rwa [show i + (j + 1) = i + 1 + j by omega]
    · rw [chkHGo_no h0] at h
      exact absurd h h0

theorem chkHGo_all {l : List Ho} : ∀ {n i : Nat}, (∀ j, j < n → codeH l (i + j) = 0) → chkHGo l n i = (0, 0)
  | 0, _, _ => rfl
  | n + 1, i, h => by
    rw [chkHGo_ok (i := i) (h 0 (by omega))]
    exact chkHGo_all fun j hj => by have := h (j + 1) (by omega); rwa [show i + (j + 1) = i + 1 + j by omega] at this

/-- The hosts of the first k by their IDs. -/
def hoF (l : List Ho) (k : Nat) (id : Int) : Option Ho := (l.take k).find? fun h => decide (h.id = id)

theorem hoF_some {l : List Ho} {k : Nat} {id : Int} : (hoF l k id).isSome = hoAhead l k id := by
  unfold hoF hoAhead
  rw [Bool.eq_iff_iff, List.find?_isSome]
  simp

theorem take_succ_of {α : Type} {l : List α} {k : Nat} {x : α} (hx : l[k]? = some x) : l.take (k + 1) = l.take k ++ [x] := by
  obtain ⟨hk, rfl⟩ := List.getElem?_eq_some_iff.1 hx
  exact List.take_succ_eq_append_getElem hk

theorem hoF_succ {l : List Ho} {k : Nat} {h : Ho} (hh : l[k]? = some h) (hn : hoAhead l k h.id = false) (id : Int) : hoF l (k + 1) id = if id = h.id then some h else hoF l k id := by
  unfold hoF
  rw [take_succ_of hh, List.find?_append]
  by_cases e : id = h.id
  · subst e
    rw [if_pos rfl]
    have h0 : (l.take k).find? (fun x => decide (x.id = h.id)) = none := by
      rw [List.find?_eq_none]
      unfold hoAhead at hn
      rw [List.any_eq_false] at hn
      exact fun x hx => hn x hx
    rw [h0]
    simp
  · rw [if_neg e]
    have : (List.find? (fun x => decide (x.id = id)) [h]) = none := by simp; exact fun q => e q.symm
    rw [this]
    simp

/-- Is a host of the ID there, and Alive? -/
def aliveB (l : List Ho) (id : Int) : Bool := ((hoF l l.length id).map Ho.al).getD false

/-- The place of the first host of an ID (with alive: one that is Alive), from the i-th on; or -1. -/
def hoIn (l : List Ho) (id : Int) (alive : Bool) (i : Nat) : Int :=
  match l with
  | [] => -1
  | h :: r => if h.id = id ∧ (h.al = true ∨ alive = false) then (i : Int) else hoIn r id alive (i + 1)

/-! ### Slots -/

/-- What is wrong with a slot by itself. -/
def codeS (b : Bd) (s : Sl) : Int :=
  if s.st < 0 ∨ 3 < s.st ∨ s.tu < 0 ∨ b.tu < s.tu ∨ s.p.id < 1 ∨ b.nx ≤ s.p.id then 3
  else if s.st = 0 then (if s.ho ≠ 0 then 11 else 0)
  else if aliveB b.hs s.ho = false then 6
  else if s.tu = 0 then 3
  else 0

/-- How often one of the first i slots has the turn. -/
def tuMany (l : List Sl) (i : Nat) (n : Int) : Nat := ((l.take i).filter fun s => decide (s.tu = n)).length

def codeS2 (b : Bd) (i : Nat) : Int :=
  let s := b.sl.getD i zeroSl
  if codeS b s ≠ 0 then codeS b s else if s.tu ≠ 0 ∧ 0 < tuMany b.sl i s.tu then 10 else 0

def chkSGo (b : Bd) : Nat → Nat → Int × Int
  | 0, _ => (0, 0)
  | n + 1, i => if codeS2 b i = 0 then chkSGo b n (i + 1) else (codeS2 b i, -2001 - (i : Int))

theorem chkSGo_ok {b : Bd} {n i : Nat} (h : codeS2 b i = 0) : chkSGo b (n + 1) i = chkSGo b n (i + 1) := by rw [chkSGo, if_pos h]
theorem chkSGo_no {b : Bd} {n i : Nat} (h : ¬ codeS2 b i = 0) : chkSGo b (n + 1) i = (codeS2 b i, -2001 - (i : Int)) := by rw [chkSGo, if_neg h]

theorem chkSGo_zero {b : Bd} : ∀ {n i : Nat}, (chkSGo b n i).1 = 0 → ∀ j, j < n → codeS2 b (i + j) = 0
  | 0, _, _, _, hj => by omega
  | n + 1, i, h, j, hj => by
    by_cases h0 : codeS2 b i = 0
    · rw [chkSGo_ok h0] at h
      cases j with
      | zero => exact h0
      | succ j =>
        have := chkSGo_zero h j (by omega)
        rwa [show i + (j + 1) = i + 1 + j by omega]
    · rw [chkSGo_no h0] at h
      exact absurd h h0

theorem chkSGo_all {b : Bd} : ∀ {n i : Nat}, (∀ j, j < n → codeS2 b (i + j) = 0) → chkSGo b n i = (0, 0)
  | 0, _, _ => rfl
  | n + 1, i, h => by
    rw [chkSGo_ok (i := i) (h 0 (by omega))]
    exact chkSGo_all fun j hj => by have := h (j + 1) (by omega); rwa [show i + (j + 1) = i + 1 + j by omega] at this

theorem tuMany_succ {l : List Sl} {k : Nat} {s : Sl} (hs : l[k]? = some s) (n : Int) : tuMany l (k + 1) n = if n = s.tu then tuMany l k n + 1 else tuMany l k n := by
  unfold tuMany
  rw [take_succ_of hs, List.filter_append, List.length_append]
  by_cases e : n = s.tu
  · rw [if_pos e]; simp [e]
  · rw [if_neg e]; simp; exact fun q => e q.symm

def parts (l : List Sl) : List Pt := l.map Sl.p

/-- What is wrong with the slots' parts. -/
def chkQ (l : List Sl) : Int × Int := if (chkP (parts l)).1 = 0 then (0, 0) else ((chkP (parts l)).1, (chkP (parts l)).2 - 1000)

/-- What Check says of a board. -/
def chkB (b : Bd) : Int × Int :=
  if (chkH b.hs).1 ≠ 0 then chkH b.hs
  else if numB b.tu = false ∨ oneB b.nx = false then (3, -2)
  else if (chkQ b.sl).1 ≠ 0 then chkQ b.sl
  else chkSGo b b.sl.length 0

theorem chkHGo_z {l : List Ho} : ∀ {n i : Nat}, (chkHGo l n i).1 = 0 → chkHGo l n i = (0, 0)
  | 0, _, _ => rfl
  | n + 1, i, h => by
    by_cases h0 : codeH l i = 0
    · rw [chkHGo_ok h0] at h ⊢; exact chkHGo_z h
    · rw [chkHGo_no h0] at h; exact absurd h h0

theorem chkH_z {l : List Ho} (h : (chkH l).1 = 0) : chkH l = (0, 0) := by
  unfold chkH at h ⊢
  split
  · rename_i q; rw [if_pos q] at h; cases h
  · rename_i q; rw [if_neg q] at h; exact chkHGo_z h

theorem chkSGo_z {b : Bd} : ∀ {n i : Nat}, (chkSGo b n i).1 = 0 → chkSGo b n i = (0, 0)
  | 0, _, _ => rfl
  | n + 1, i, h => by
    by_cases h0 : codeS2 b i = 0
    · rw [chkSGo_ok h0] at h ⊢; exact chkSGo_z h
    · rw [chkSGo_no h0] at h; exact absurd h h0

theorem chkQ_z {l : List Sl} (h : (chkQ l).1 = 0) : chkQ l = (0, 0) := by
  unfold chkQ at h ⊢
  split
  · rfl
  · rename_i q; rw [if_neg q] at h; exact absurd h q

theorem chkB_z {b : Bd} (h : (chkB b).1 = 0) : chkB b = (0, 0) := by
  unfold chkB at h ⊢
  split
  · rename_i q; rw [if_pos q] at h; exact absurd h q
  · rename_i q; rw [if_neg q] at h
    split
    · rename_i q2; rw [if_pos q2] at h; cases h
    · rename_i q2; rw [if_neg q2] at h
      split
      · rename_i q3; rw [if_pos q3] at h; exact absurd h q3
      · rename_i q3; rw [if_neg q3] at h; exact chkSGo_z h

theorem chkB_ok {b : Bd} (h : (chkB b).1 = 0) : (chkH b.hs).1 = 0 ∧ numB b.tu = true ∧ oneB b.nx = true ∧ (chkP (parts b.sl)).1 = 0 ∧ (chkSGo b b.sl.length 0).1 = 0 := by
  unfold chkB at h
  by_cases h1 : (chkH b.hs).1 ≠ 0
  · rw [if_pos h1] at h; exact absurd h h1
  · rw [if_neg h1] at h
    by_cases h2 : numB b.tu = false ∨ oneB b.nx = false
    · rw [if_pos h2] at h; cases h
    · rw [if_neg h2] at h
      by_cases h3 : (chkQ b.sl).1 ≠ 0
      · rw [if_pos h3] at h; exact absurd h h3
      · rw [if_neg h3] at h
        refine ⟨by simpa using h1, by simpa using fun q => h2 (.inl q), by simpa using fun q => h2 (.inr q), ?_, h⟩
        have h3' : (chkQ b.sl).1 = 0 := by simpa using h3
        unfold chkQ at h3'
        by_cases h4 : (chkP (parts b.sl)).1 = 0
        · exact h4
        · rw [if_neg h4] at h3'; exact absurd h3' h4

end Go.Proofs.Ytoeobhehjnkkkaa

/-
  Maps from ints to whatever values, of one's own: what they have, as a function.
-/
namespace Go.Proofs.Ytoeobhehjnkkkaa
open Go.RowKit Go.Maps
set_option linter.unusedVariables false

/-- A value as it stands. -/
def rawE (v : Value) : Option (DataW Value × List MemPlace) := some (.held v, [])

theorem ownsMap_belowV {H : Type} {w w' : World} {P : Program} {k : TypeId} {R : Value → Option (DataW H × List MemPlace)} {b n C : Nat} {D : DataW H} (h : w.ownsMap P k R b n D) (hb : Below C w w') (hC : b < C) : w'.ownsMap P k R b n D := by
  obtain ⟨es, clock, hbk, r⟩ := h
  exact ⟨es, clock, by rw [hb.block _ hC]; exact hbk, r⟩

/-- The block B is a map of ints with at most n entries; f tells what it has. -/
def MpI (w : World) (B n : Nat) (f : Int → Option Value) : Prop :=
  ∃ D : DataW Value, w.ownsMap Try.prog 3 rawE B n D ∧ IsMap D ∧ ∀ id : Int, Maps.has D (.int .i64 id) = (f id).isSome ∧ ∀ z, D.atKey (.int .i64 id) (.held z) = .held ((f id).getD z)

theorem MpI.made (w : World) : MpI (w.alloc (.map #[] 0)) w.heap.size 0 (fun _ => none) :=
  ⟨_, World.ownsMap_made w Try.prog 3 rawE, isMap_empty, fun id => ⟨by simp [Maps.has], fun z => by simp [DataW.atKey]⟩⟩

theorem MpI.lt {w : World} {B n : Nat} {f : Int → Option Value} (h : MpI w B n f) : B < w.heap.size := by
  obtain ⟨D, h, _⟩ := h
  exact h.lt

theorem MpI.later {w w' : World} {B n : Nat} {f : Int → Option Value} (h : MpI w B n f) (hb : Below w.heap.size w w') : MpI w' B n f := by
  have hl := h.lt
  obtain ⟨D, h, r⟩ := h
  exact ⟨D, ownsMap_belowV h hb hl, r⟩

theorem MpI.kept {w w' : World} {B n : Nat} {f : Int → Option Value} {o : Option Nat} (h : MpI w B n f) (hg : w.grownBy w' o) (hne : some B ≠ o) : MpI w' B n f := by
  obtain ⟨D, h, r⟩ := h
  exact ⟨D, h.kept hg hne, r⟩

theorem MpI.drew {w : World} {B n : Nat} {f : Int → Option Value} (h : MpI w B n f) : MpI w.drew B n f := h

section
variable {w : World} {ops : Array Oper} {rest : List Oper} {o : Oper} {a : Act} {Q : Exit → Act → World → Prop} {B n : Nat} {f : Int → Option Value}

/-- 'v, ok := m[k]'. -/
theorem wpList_lookupI_ok {m x : Operand} {t e : TypeId} {id : Int} {z : Value} (hg : o.guard = none) (hop : o.op = Op.lookup t m x true) (ht : Try.prog.underlying t = some (.map 3 e)) (hz : (zeroValue e).run Try.prog w = .ok z w)
    (hm : a.eval m = .map (some B)) (hx : a.eval x = .int .i64 id) (hown : MpI w B n f) (hwf : (Lit.int .i64 id).wf = true)
    (hK : wpList Try.prog ops Q rest (a.put o.dst (.tuple #[(f id).getD z, .bool (f id).isSome])) w) : wpList Try.prog ops Q (o :: rest) a w := by
  obtain ⟨D, h, _, hf⟩ := hown
  refine wpList_lookup_own_ok w hg m x t hop 3 e lawInt ht rawE hz (.held z) [] rfl B n D hm h _ _ hx (keyOf_int_mk Try.underlying3 hwf) (fun v ps hv => ?_)
  rw [(hf id).2 z] at hv
  unfold rawE at hv
  simp only [Option.some.injEq, Prod.mk.injEq, DataW.held.injEq] at hv
  rw [(hf id).1, hv.1]
  exact hK

/-- 'm[k]'. -/
theorem run_lookupI {t e : TypeId} {id : Int} {z : Value} (ht : Try.prog.underlying t = some (.map 3 e)) (hz : (zeroValue e).run Try.prog w = .ok z w)
    (hown : MpI w B n f) (hwf : (Lit.int .i64 id).wf = true) : (Instr.lookup t (.map (some B)) (.int .i64 id) false).run Try.prog w = .ok ((f id).getD z) w := by
  obtain ⟨D, h, _, hf⟩ := hown
  obtain ⟨v, ps, hrun, hv⟩ := h.lookup lawInt ht hz (R := rawE) (zd := .held z) (zp := []) rfl (keyOf_int_mk Try.underlying3 hwf)
  rw [(hf id).2 z] at hv
  unfold rawE at hv
  simp only [Option.some.injEq, Prod.mk.injEq, DataW.held.injEq] at hv
  rw [hrun, hv.1]

/-- 'm[k] = v'. -/
theorem wpList_updateI {m x v : Operand} {t e : TypeId} {id : Int} {u : Value} (hg : o.guard = none) (hop : o.op = Op.mapUpdate t m x v) (ht : Try.prog.underlying t = some (.map 3 e))
    (hm : a.eval m = .map (some B)) (hx : a.eval x = .int .i64 id) (hv : a.eval v = u) (hown : MpI w B n f) (hn : n < maxLen) (hwf : (Lit.int .i64 id).wf = true)
    (hK : ∀ w', MpI w' B (n + 1) (fun k => if k = id then some u else f k) → w.grownBy w' (some B) → wpList Try.prog ops Q rest (a.put o.dst undef) w') : wpList Try.prog ops Q (o :: rest) a w := by
  obtain ⟨D, h, hM, hf⟩ := hown
  refine wpList_mapUpdate_own w hg m x v t hop 3 e lawInt ht rawE B n D hm h hn _ _ _ hx hv (keyOf_int_mk Try.underlying3 hwf) (.held u) [] rfl (fun w' h' hgr => hK w' ⟨_, h', hM.put _ _, fun k => ?_⟩ hgr)
  dsimp only
  by_cases q : k = id
  · subst q
    rw [if_pos rfl]
    exact ⟨has_put_same (k := .int .i64 k) hM trivial _, fun z => by rw [atKey_put_same (k := .int .i64 k) hM trivial]; rfl⟩
  · rw [if_neg q]
    have hne : (Lit.int .i64 k) ≠ Lit.int .i64 id := fun h => q (by simpa using h)
    exact ⟨by rw [has_put_other hne, (hf k).1], fun z => by rw [atKey_put_other hne, (hf k).2]⟩

end

end Go.Proofs.Ytoeobhehjnkkkaa

/-
  Rows of one's own: one structure is taken out of them in place, the place behind is cleared, one is written anew. Nothing of a program stands here.
-/
namespace Go.Proofs.Ytoeobhehjnkkkaa
open Go.RowKit

theorem zeroCells_oneG (z : Array Value) : (Builtin.zeroCells z 1).toList = z.toList := by
  unfold Builtin.zeroCells
  apply List.ext_getElem?
  intro i
  simp only [Nat.one_mul]
  by_cases h : i < z.size
  · simp [h, Nat.mod_eq_of_lt h]
  · simp [h]

/-- Where a row of one's own lies, if it has something. -/
theorem owns_pos {w : World} {base : Nat} {e : TypeId} {K : Nat} {v : Value} {n : Nat} {xs : List Value} (h : w.ownsRow base e K v n xs) (hn : 0 < n) :
    ∃ g cap cur, v = .slice (some ⟨g, 0, none⟩) n cap ∧ base ≤ g ∧ w.heap[g]? = some (.cells cur e (0, 0)) ∧ n ≤ cap ∧ cap ≤ maxLen ∧ cur.size = cap * K ∧ cur.toList.take (n * K) = xs := by
  rcases h.2 with ⟨_, h0⟩ | h
  · omega
  · exact h

/-- A row that is written anew. -/
theorem owns_setRow {w : World} {base : Nat} {e : TypeId} {K : Nat} {g n cap : Nat} {cur new : Array Value} {xs : List Value} (hb : base ≤ g) (hg : w.heap[g]? = some (.cells cur e (0, 0))) (hn : n ≤ cap) (hc : cap ≤ maxLen) (hs : new.size = cap * K) (ht : new.toList.take (n * K) = xs) (hl : xs.length = n * K) :
    (w.setRow g new).ownsRow base e K (.slice (some ⟨g, 0, none⟩) n cap) n xs ∧ w.grownBy (w.setRow g new) (some g) := by
  refine ⟨⟨hl, .inr ⟨g, cap, new, rfl, hb, setRow_heap w g cur new e (0, 0) hg, hn, hc, hs, ht⟩⟩, rfl, rfl, rfl, ?_, fun k hk hne => ?_⟩
  · simp [World.setRow]
  · have : k ≠ g := fun q => hne (by rw [q])
    simp only [World.setRow, Array.getElem?_modify]
    rw [if_neg (by omega)]

section
variable {α : Type} {K : Nat} {E : En α K}

/-- 'append(s[:i], s[i+1:]...)' within a row of one's own. -/
theorem run_append_within {P : Program} {w : World} {base : Nat} {t ty e : TypeId} {z : Value} {bytes g n cap i c : Nat} {cs : List α}
    (ht : P.underlying t = some (.slice e)) (hinf : (P.info? e).map (fun i => (i.zero, i.size, i.bytes)) = some (some z, K, bytes))
    (hown : w.ownsRow base e K (.slice (some ⟨g, 0, none⟩) n cap) n (E.vs cs)) (hi : i < n) {a : Addr} (ha : i + 1 < n → a = ⟨g, (i + 1) * K, none⟩) :
    ∃ w', (Builtin.append_ #[t, t] ty #[.slice (some ⟨g, 0, none⟩) i cap, .slice (some a) (n - (i + 1)) c]).run P w = .ok (.slice (some ⟨g, 0, none⟩) (n - 1) cap) w' ∧
      w'.ownsRow base e K (.slice (some ⟨g, 0, none⟩) (n - 1) cap) (n - 1) (E.vs (cs.eraseIdx i)) ∧ w.grownBy w' (some g) := by
  obtain ⟨I, hI, hz, hsize, hby⟩ := info_parts hinf
  obtain ⟨g', cap', cur, hv, hb, hg, hnc, hcm, hcs, htake⟩ := owns_pos hown (by omega)
  simp only [Value.slice.injEq, Option.some.injEq, Addr.mk.injEq] at hv
  obtain ⟨⟨rfl, -, -⟩, -, rfl⟩ := hv
  have hl : cs.length = n := by
    have := hown.1
    rw [vs_length] at this
    exact Nat.eq_of_mul_eq_mul_right E.pos this
  have hnl : (E.vs (cs.drop (i + 1))).length = (n - (i + 1)) * K := by rw [vs_length, List.length_drop, hl]
  have hcell : ∀ j u, (E.vs cs)[j]? = some u → w.cell? ⟨g, j, none⟩ = some u := by
    intro j u hu
    rw [cell_of_row _ _ _ _ _ _ hg, ← Array.getElem?_toList]
    have hj : j < n * K := by
      have := (List.getElem?_eq_some_iff.1 hu).1
      rwa [hown.1] at this
    rw [← htake, List.getElem?_take, if_pos hj] at hu
    exact hu
  have hmul : i * K + (n - (i + 1)) * K + K = n * K := by
    rw [← Nat.add_mul, ← Nat.succ_mul]
    congr 1
    omega
  have hmc : n * K ≤ cap * K := Nat.mul_le_mul_right _ hnc
  have hr := run_append_room (P := P) w t ty e I ht hI g i cap cur hg a (n - (i + 1)) c (E.vs (cs.drop (i + 1))) (by rw [hnl, hsize]) (fun j u hu => by
      by_cases hlast : i + 1 < n
      · rw [ha hlast, Addr.add_lit]
        refine hcell _ _ ?_
        rw [← vs_drop, List.getElem?_drop] at hu
        exact hu
      · have : n - (i + 1) = 0 := by omega
        rw [this, Nat.zero_mul] at hnl
        rw [List.eq_nil_of_length_eq_zero hnl] at hu
        simp at hu) (vs_one _) (by omega) (by rw [hsize, hnl, hcs]; omega)
  rw [hsize, hnl] at hr
  have e1 : i + (n - (i + 1)) = n - 1 := by omega
  rw [e1] at hr
  have hn1 : (n - 1) * K = i * K + (n - (i + 1)) * K := by rw [← e1, Nat.add_mul]
  have ht1 : cur.toList.take (i * K) = E.vs (cs.take i) := by
    rw [← vs_take, ← htake, List.take_take]
    congr 1
    have : i * K ≤ n * K := Nat.mul_le_mul_right _ (by omega)
    omega
  have hlt1 : (cur.toList.take (i * K)).length = i * K := by rw [ht1, vs_length, List.length_take, hl, Nat.min_eq_left (by omega)]
  have key := owns_setRow (K := K) (xs := E.vs (cs.eraseIdx i)) (n := n - 1) (new := (cur.toList.take (i * K) ++ E.vs (cs.drop (i + 1)) ++ cur.toList.drop (i * K + (n - (i + 1)) * K)).toArray) hb hg (by omega) hcm ?_ ?_ ?_
  · exact ⟨_, hr, key.1, key.2⟩
  · simp only [List.size_toArray, List.length_append, hlt1, hnl, List.length_drop, Array.length_toList, hcs]
    omega
  · rw [hn1]
    have : (cur.toList.take (i * K) ++ E.vs (cs.drop (i + 1))).length = i * K + (n - (i + 1)) * K := by rw [List.length_append, hlt1, hnl]
    rw [← this, List.take_left, ht1, ← vs_append, List.eraseIdx_eq_take_drop_succ]
  · rw [vs_length, List.length_eraseIdx, if_pos (by omega), hl]

/-- 'clear(s[n:n+1])' behind what is counted of a row of one's own. -/
theorem run_clear_behind {P : Program} {w : World} {base : Nat} {t ty e : TypeId} {z : Value} {g n cap c : Nat} {xs : List Value}
    (ht : P.underlying t = some (.slice e)) (hzs : z.cells.size = K) (hz1 : ∀ u ∈ z.cells.toList, u.oneCell' = true)
    (hown : w.ownsRow base e K (.slice (some ⟨g, 0, none⟩) n cap) n xs) (hroom : n < cap) (hg0 : ∀ W, (zeroValue e).run P W = .ok z W) :
    ∃ w', (Builtin.clear_ #[t] ty #[.slice (some ⟨g, n * K, none⟩) 1 c]).run P w = .ok (.tuple #[]) w' ∧ w'.ownsRow base e K (.slice (some ⟨g, 0, none⟩) n cap) n xs ∧ w.grownBy w' (some g) := by
  rcases hown.2 with ⟨h, _⟩ | ⟨g', cap', cur, hv, hb, hg, hnc, hcm, hcs, htake⟩
  · cases h
  simp only [Value.slice.injEq, Option.some.injEq, Addr.mk.injEq] at hv
  obtain ⟨⟨rfl, -, -⟩, -, rfl⟩ := hv
  have hzl : z.cells.toList.length = K := by simpa using hzs
  have hmc : n * K + K ≤ cap * K := by
    rw [← Nat.succ_mul]
    exact Nat.mul_le_mul_right _ hroom
  have hst := run_storeCells_at P g (n * K) e z.cells.toList 0 cur w hg (by rw [hzl, hcs]; omega) hz1
  simp only [Nat.add_zero] at hst
  have key := owns_setRow (K := K) (w := w) (xs := xs) (n := n) (new := (cur.toList.take (n * K) ++ z.cells.toList ++ cur.toList.drop (n * K + z.cells.toList.length)).toArray) hb hg hnc hcm ?_ ?_ hown.1
  · refine ⟨_, ?_, key.1, key.2⟩
    simp only [Builtin.clear_]
    simp [run_underlying ht, hg0, zeroCells_oneG, hst]
  · simp only [List.size_toArray, List.length_append, List.length_take, List.length_drop, hzl, Array.length_toList, hcs]
    omega
  · have : (cur.toList.take (n * K)).length = n * K := by rw [List.length_take, Array.length_toList, hcs]; omega
    rw [List.append_assoc]
    exact (List.take_left' this).trans htake

end

/-- A place of a row of one's own is written. -/
theorem owns_setCell {w : World} {base : Nat} {e : TypeId} {K : Nat} {g n cap : Nat} {xs : List Value} (h : w.ownsRow base e K (.slice (some ⟨g, 0, none⟩) n cap) n xs) (k : Nat) (u : Value) :
    (w.setCell ⟨g, k, none⟩ u).ownsRow base e K (.slice (some ⟨g, 0, none⟩) n cap) n (xs.set k u) := by
  rcases h.2 with ⟨h, _⟩ | ⟨g', cap', cur, hv, hb, hg, hnc, hcm, hcs, htake⟩
  · cases h
  simp only [Value.slice.injEq, Option.some.injEq, Addr.mk.injEq] at hv
  obtain ⟨⟨rfl, -, -⟩, -, rfl⟩ := hv
  refine ⟨by rw [List.length_set]; exact h.1, .inr ⟨g, cap, cur.setIfInBounds k u, rfl, hb, heap_setCell_same w g k _ _ _ hg, hnc, hcm, by simp [hcs], ?_⟩⟩
  rw [Array.toList_setIfInBounds, ← htake, List.take_set]

/-- A row of one's own, while another block is written. -/
theorem owns_setOther {w : World} {base : Nat} {e : TypeId} {K : Nat} {v : Value} {n : Nat} {xs : List Value} (h : w.ownsRow base e K v n xs) {p : Addr} (hp : v.ownBlock ≠ some p.block) (u : Value) :
    (w.setCell p u).ownsRow base e K v n xs := by
  refine ⟨h.1, ?_⟩
  rcases h.2 with hn | ⟨g, cap, cur, rfl, hb, hg, r⟩
  · exact .inl hn
  · refine .inr ⟨g, cap, cur, rfl, hb, ?_, r⟩
    rw [heap_setCell_other w p _ u (fun q => hp (by simp [Value.ownBlock, q]))]
    exact hg

/-- Rows of one's own that have other elements lie in other blocks. -/
theorem owns_ne {w : World} {b1 b2 : Nat} {e1 e2 : TypeId} {K1 K2 : Nat} {v1 v2 : Value} {n1 n2 : Nat} {xs1 xs2 : List Value} (h1 : w.ownsRow b1 e1 K1 v1 n1 xs1) (h2 : w.ownsRow b2 e2 K2 v2 n2 xs2) (he : e1 ≠ e2) : v1.ownBlock = none ∨ v1.ownBlock ≠ v2.ownBlock := by
  rcases h1.2 with ⟨rfl, _⟩ | ⟨g1, c1, cur1, rfl, _, hg1, _⟩
  · exact .inl rfl
  · right
    rcases h2.2 with ⟨rfl, _⟩ | ⟨g2, c2, cur2, rfl, _, hg2, _⟩
    · simp [Value.ownBlock]
    · intro q
      simp only [Value.ownBlock, Option.some.injEq] at q
      subst q
      rw [hg1] at hg2
      simp at hg2
      exact he hg2.2

/-- A row of one's own does not lie in a block of another type. -/
theorem owns_off {w : World} {b1 B : Nat} {e1 t : TypeId} {K1 : Nat} {v1 : Value} {n1 : Nat} {xs1 : List Value} {ys : Array Value} (h1 : w.ownsRow b1 e1 K1 v1 n1 xs1) (h2 : Blk w B t ys) (he : e1 ≠ t) : v1.ownBlock ≠ some B := by
  rcases h1.2 with ⟨rfl, _⟩ | ⟨g1, c1, cur1, rfl, _, hg1, _⟩
  · simp [Value.ownBlock]
  · intro q
    simp only [Value.ownBlock, Option.some.injEq] at q
    subst q
    unfold Blk at h2
    rw [hg1] at h2
    simp at h2
    exact he h2.2

/-- Blocks that were laid one behind the other. -/
theorem Blk.at1 (w : World) (o : Obj) (t : TypeId) (xs : Array Value) : Blk ((w.alloc o).alloc (.cells xs t)) (w.heap.size + 1) t xs := by
  have := Blk.new (w.alloc o) t xs
  simpa using this

theorem Blk.at2 (w : World) (o o2 : Obj) (t : TypeId) (xs : Array Value) : Blk (((w.alloc o).alloc o2).alloc (.cells xs t)) (w.heap.size + 2) t xs := by
  have := Blk.new ((w.alloc o).alloc o2) t xs
  simpa using this

theorem Blk.at0of2 (w : World) (o : Obj) (t : TypeId) (xs : Array Value) : Blk ((w.alloc (.cells xs t)).alloc o) w.heap.size t xs := (Blk.new w t xs).later (below_allocG _ _)

theorem Blk.at0of3 (w : World) (o o2 : Obj) (t : TypeId) (xs : Array Value) : Blk (((w.alloc (.cells xs t)).alloc o).alloc o2) w.heap.size t xs := (Blk.at0of2 w o t xs).later (below_allocG _ _)

theorem Blk.at1of3 (w : World) (o o2 : Obj) (t : TypeId) (xs : Array Value) : Blk (((w.alloc o).alloc (.cells xs t)).alloc o2) (w.heap.size + 1) t xs := (Blk.at1 w o t xs).later (below_allocG _ _)

theorem below_alloc2 (w : World) (o o2 : Obj) : Below w.heap.size w ((w.alloc o).alloc o2) := (below_allocG w o).trans ((below_allocG _ o2).mono (by simp))

theorem below_alloc3 (w : World) (o o2 o3 : Obj) : Below w.heap.size w (((w.alloc o).alloc o2).alloc o3) := (below_alloc2 w o o2).trans ((below_allocG _ o3).mono (by simp; omega))

theorem owns_len {α : Type} {K : Nat} {E : En α K} {w : World} {base : Nat} {e : TypeId} {v : Value} {n : Nat} {cs : List α} (h : w.ownsRow base e K v n (E.vs cs)) : cs.length = n := by
  have := h.1
  rw [vs_length] at this
  exact Nat.eq_of_mul_eq_mul_right E.pos this

end Go.Proofs.Ytoeobhehjnkkkaa

/-
  Whole variables, out of their blocks and into them; results that are read out of blocks. Nothing of a program stands here.
-/
namespace Go.Proofs.Ytoeobhehjnkkkaa
open Go.RowKit

theorem run_loadVar_blk {P : Program} {w : World} {B : Nat} {t ty : TypeId} {xs : Array Value} {d : TypeDesc} (h : Blk w B t xs) (hu : P.underlying ty = some d) (hd : (match d with | .struct _ | .array _ _ => true | _ => false) = true) (hi : (P.info? ty).map (·.size) = some xs.size) :
    (loadVar ty ⟨B, 0, none⟩).run P w = .ok (.agg xs) w := run_loadVar_row w B t ty xs (0, 0) d h hu hd hi

theorem run_loadAt_blk {P : Program} {w : World} {B : Nat} {t ty : TypeId} {xs : Array Value} {d : TypeDesc} (h : Blk w B t xs) (hu : P.underlying ty = some d) (hd : (match d with | .struct _ | .array _ _ => true | _ => false) = true) (hi : (P.info? ty).map (·.size) = some xs.size) :
    (Instr.loadAt ty (.pointer (some ⟨B, 0, none⟩))).run P w = .ok (.agg xs) w := by
  simp only [Instr.loadAt, Instr.sureAddr, Sem.run_bind, Sem.run_pure, Result.andThen]
  exact run_loadVar_blk h hu hd hi

theorem run_storeAt_blk {P : Program} {w : World} {B : Nat} {t ty : TypeId} {old xs : Array Value} (h : Blk w B t old) (hi : (P.info? ty).map (·.size) = some xs.size) (ho : old.size = xs.size) (h1 : xs.all (·.oneCell') = true) :
    (Instr.storeAt ty (.pointer (some ⟨B, 0, none⟩)) (.agg xs)).run P w = .ok () (w.setRow B xs) := by
  simp only [Instr.storeAt, Instr.sureAddr, Sem.run_bind, Sem.run_pure, Result.andThen]
  exact run_storeVar_row w B t ty old xs h hi ho h1

theorem Blk.setRow {w : World} {B : Nat} {t : TypeId} {old : Array Value} (h : Blk w B t old) (xs : Array Value) : Blk (w.setRow B xs) B t xs := by
  unfold Blk at *
  simp [World.setRow, Array.getElem?_modify, h]

theorem grown_setRow (w : World) (B : Nat) (xs : Array Value) : w.grownBy (w.setRow B xs) (some B) := by
  refine ⟨rfl, rfl, rfl, by simp [World.setRow], fun k hk hne => ?_⟩
  have : ¬ B = k := fun q => hne (by rw [q])
  simp [World.setRow, Array.getElem?_modify, this]

/-- A whole variable out of its block. -/
theorem wpList_load_blk {P : Program} {ops : Array Oper} {rest : List Oper} {op : Oper} {a : Act} {w : World} {Q : Exit → Act → World → Prop} {ty : TypeId} {x : Operand} {B : Nat} {t : TypeId} {xs : Array Value} {d : TypeDesc}
    (hB : Blk w B t xs) (hu : P.underlying ty = some d) (hd : (match d with | .struct _ | .array _ _ => true | _ => false) = true) (hi : (P.info? ty).map (·.size) = some xs.size) (hgd : op.guard = none) (ho : op.op = .load ty x) (hx : a.eval x = .pointer (some ⟨B, 0, none⟩))
    (h : wpList P ops Q rest (a.put op.dst (.agg xs)) w) : wpList P ops Q (op :: rest) a w :=
  wpList_plain hgd fun _ hK => by
    unfold Oper.wp execOp
    simp only [ho, hx, run_loadAt_blk hB hu hd hi, Sem.run_bind, Sem.run_pure, Result.andThen_ok]
    exact hK _ _ h

/-- A whole variable into its block: the world behind is a letter. -/
theorem wpList_store_blk {P : Program} {ops : Array Oper} {rest : List Oper} {op : Oper} {a : Act} {w : World} {Q : Exit → Act → World → Prop} {ty : TypeId} {x y : Operand} {B : Nat} {t : TypeId} {old xs : Array Value}
    (hgd : op.guard = none) (ho : op.op = .store ty x y) (hx : a.eval x = .pointer (some ⟨B, 0, none⟩)) (hy : a.eval y = .agg xs) (hB : Blk w B t old) (hz : old.size = xs.size) (hi : (P.info? ty).map (·.size) = some xs.size) (h1 : xs.toList.all (·.oneCell') = true)
    (h : ∀ w', Blk w' B t xs → w.grownBy w' (some B) → wpList P ops Q rest (a.put op.dst undef) w') : wpList P ops Q (op :: rest) a w :=
  wpList_plain hgd fun _ hK => by
    unfold Oper.wp execOp
    simp only [ho, hx, hy, run_storeAt_blk hB hi hz (by rw [← Array.all_toList]; exact h1), Sem.run_bind, Sem.run_pure, Result.andThen_ok]
    exact hK _ _ (h _ (hB.setRow xs) (grown_setRow w B xs))

/-- The same as a step of a region that draws its order. -/
theorem step_store_blk {P : Program} {w : World} {ops : Array Oper} {o : Oper} {a : Act} {K : Act → World → Prop} {Q : Exit → Act → World → Prop} {EE : Prop} {x y : Operand} {B : Nat} {t ty : TypeId} {old xs : Array Value}
    (hgd : o.guard = none) (ho : o.op = .store ty x y) (hx : a.eval x = .pointer (some ⟨B, 0, none⟩)) (hy : a.eval y = .agg xs) (hB : Blk w B t old) (hz : old.size = xs.size) (hi : (P.info? ty).map (·.size) = some xs.size) (h1 : xs.toList.all (·.oneCell') = true)
    (h : ∀ w', Blk w' B t xs → w.grownBy w' (some B) → K (a.put o.dst undef) w') : if Region.wanted o (yielded ops a.tmps) = true then Oper.wp P o a w K Q else EE := by
  have hw : Region.wanted o (yielded ops a.tmps) = true := by simp [Region.wanted, hgd]
  rw [if_pos hw]
  unfold Oper.wp execOp
  simp only [ho, hx, hy, run_storeAt_blk hB hi hz (by rw [← Array.all_toList]; exact h1), Sem.run_bind, Sem.run_pure, Result.andThen_ok]
  exact h _ (hB.setRow xs) (grown_setRow w B xs)

theorem results1_cell {P : Program} {fn : Func} {i : Tmp} {t : TypeId} {tmps : Array Value} {B : Nat} {v : Value} {w : World} (h : fn.results = #[.cell i t]) (hp : tmps[i]?.getD undef = .pointer (some ⟨B, 0, none⟩)) (hl : (loadVar t ⟨B, 0, none⟩).run P w = .ok v w) :
    (results fn tmps).run P w = .ok v w := by
  simp [results, h, hp, asAddr, hl]

theorem results2_cells {P : Program} {fn : Func} {i j : Tmp} {t u : TypeId} {tmps : Array Value} {B C : Nat} {v1 v2 : Value} {w : World} (h : fn.results = #[.cell i t, .cell j u]) (hp : tmps[i]?.getD undef = .pointer (some ⟨B, 0, none⟩)) (hq : tmps[j]?.getD undef = .pointer (some ⟨C, 0, none⟩)) (hl : (loadVar t ⟨B, 0, none⟩).run P w = .ok v1 w) (hm : (loadVar u ⟨C, 0, none⟩).run P w = .ok v2 w) :
    (results fn tmps).run P w = .ok (.tuple #[v1, v2]) w := by
  simp [results, h, hp, hq, asAddr, hl, hm]

theorem results2_tc {P : Program} {fn : Func} {i j : Tmp} {u : TypeId} {tmps : Array Value} {C : Nat} {v1 v2 : Value} {w : World} (h : fn.results = #[.tmp i, .cell j u]) (hp : tmps[i]?.getD undef = v1) (hq : tmps[j]?.getD undef = .pointer (some ⟨C, 0, none⟩)) (hm : (loadVar u ⟨C, 0, none⟩).run P w = .ok v2 w) :
    (results fn tmps).run P w = .ok (.tuple #[v1, v2]) w := by
  simp [results, h, hp, hq, asAddr, hm]

end Go.Proofs.Ytoeobhehjnkkkaa
