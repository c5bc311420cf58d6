/-
  Texts joined: LoW4.
-/
import Derived.Test.YtoeobhehjnkkkaaMLocateDoesLoW3
/-
  The walks over package locate's learnt. (Written by lo4.py.)
-/
namespace Go.Proofs.Ytoeobhehjnkkkaa
open Go.RowKit Go.Maps
set_option linter.unusedVariables false

theorem takeK_flat {α : Type} {ls : List (List α)} {k : Nat} {l : List α} (h : ls[k]? = some l) : (ls.take (k + 1)).flatten = (ls.take k).flatten ++ l := by
  obtain ⟨hl, rfl⟩ := List.getElem?_eq_some_iff.1 h
  rw [List.take_succ_eq_append_getElem hl, List.flatten_append]
  simp

theorem flatK_le {α : Type} {ls : List (List α)} (k : Nat) : (ls.take k).flatten.length ≤ ls.flatten.length := by
  have : ls.flatten = (ls.take k).flatten ++ (ls.drop k).flatten := by rw [← List.flatten_append, List.take_append_drop]
  rw [this, List.length_append]
  omega

set_option maxRecDepth 100000 in
set_option maxHeartbeats 1000000 in
theorem growK_any (n : Nat) (w : World) (hn : n ≤ 1000000) :
    Calls Try.prog 103 #[.slice none 0 0, .int .i64 n] w fun e w' => ∃ v', e = .returned v' ∧ w'.ownsRow w.heap.size 61 5 v' 0 (knE.vs []) ∧ Below w.heap.size w w' := by
  by_cases h0 : n = 0
  · subst h0
    go_enter Try.func103, Try.ntmps103
    go_wp2_with fail
    go_ret
    exact ⟨_, rfl, World.ownsRow_nil _ _ _ _, Below.refl _ _⟩
  · obtain ⟨G, w1, hr, hg1, hg2, hown, hbel⟩ := run_grow_nil (P := Try.prog) w (ty := 59) Try.underlying59 Try.underlying3 infoKnown rfl (by decide) (by decide) n (by omega) hn
    have hs1 := run_slice_uptoK (K := 5) (P := Try.prog) Try.underlying59 (by kernel_rfl) infoKnown none 0 0 0 (0 : Int) rfl (Nat.le_refl _)
    have hs2 := run_slice_uptoK (K := 5) (P := Try.prog) Try.underlying59 (by kernel_rfl) infoKnown (some ⟨w.heap.size, 0, none⟩) n G 0 (0 : Int) rfl (Nat.zero_le _)
    have e1 : Go.sliced none 0 0 0 5 = .slice none 0 0 := rfl
    have e2 : Go.sliced (some ⟨w.heap.size, 0, none⟩) 0 0 G 5 = .slice (some ⟨w.heap.size, 0, none⟩) 0 G := by unfold Go.sliced; split <;> simp [Addr.add]
    rw [e1] at hs1
    rw [e2] at hs2
    have h1 : (0 : Int) < (n : Int) := by omega
    unfold maxLen at hg2
    clear e1 e2
    go_enter Try.func103, Try.ntmps103
    go_wp2_with (at_builtin; refine Lib.wpList_append_run _ rfl _ _ _ _ rfl _ _ rfl rfl _ _ hr ?_)
    go_ret
    exact ⟨_, rfl, hown, hbel⟩

set_option maxRecDepth 100000 in
set_option maxHeartbeats 2000000 in
theorem concatK_any (v : Value) (ls : List (List Kn)) (w : World) (hv : RdLG knE w v ls) (hl : ls.flatten.length ≤ 100000) :
    Calls Try.prog 85 #[v] w fun e w' => ∃ v', e = .returned v' ∧ w'.ownsRow w.heap.size 61 5 v' ls.flatten.length (knE.vs ls.flatten) ∧ Below w.heap.size w w' := by
  obtain ⟨ao, cap, hvv, hc1, hc2⟩ := hv.shape
  subst hvv
  unfold maxLen at hc2
  go_enter Try.func85, Try.ntmps85
  go_wp2_with fail
  go_loop [3, 11] (fun sv iv => ∃ (j : Nat), j ≤ ls.length ∧ iv = .int .i64 j ∧ sv = .int .i64 ((ls.take j).flatten.length))
    (fun _ iv => ls.length - (intOf iv).toNat)
  case atStart => exact ⟨0, by omega, rfl, by simp⟩
  case round =>
    obtain ⟨j, hj, rfl, rfl⟩ := hrel
    have hle := flatK_le (ls := ls) j
    generalize hN : (ls.take j).flatten.length = N at *
    by_cases hlt : j < ls.length
    · obtain ⟨l, hx⟩ : ∃ x, ls[j]? = some x := ⟨_, List.getElem?_eq_getElem hlt⟩
      obtain ⟨b, off, u, rfl, hb, hc, hru⟩ := hv.here hx
      obtain ⟨uo, uc, huu, hu1, hu2⟩ := hru.shape
      subst huu
      have hk1 : (0 : Int) ≤ (j : Int) := by omega
      have hk2 : (j : Int) < (ls.length : Int) := by omega
      have hle2 := flatK_le (ls := ls) (j + 1)
      have HT := hide (show (ls.take (j + 1)).flatten.length = N + l.length by rw [takeK_flat hx, List.length_append, hN])
      have hsm : N + l.length ≤ 100000 := by rw [← HT.out]; omega
      have hnn : ¬ ((N : Int) + (l.length : Int) < 0) := by omega
      clear hN hx hle hle2
      go_wp2_with fail
      go_round
      case rel => exact ⟨j + 1, by omega, by go_num, by rw [HT.out]; go_num⟩
      case measure => simp [intOf]; omega
    · have hje : j = ls.length := by omega
      subst hje
      rw [List.take_length] at hN
      have hN2 : N ≤ 1000000 := by omega
      have HN := hide hN
      clear hN hle
      go_wp2_with fail
      refine (growK_any N _ hN2).mono ?_
      rintro e w1 ⟨v1, rfl, hown1, hb1⟩
      obtain ⟨vo, vc, hvs⟩ : ∃ ao cap, v1 = .slice ao 0 cap := by
        rcases hown1.2 with ⟨rfl, hn⟩ | ⟨g, cap, cur, rfl, _⟩
        · exact ⟨none, 0, rfl⟩
        · exact ⟨_, _, rfl⟩
      subst hvs
      go_wp2_with fail
      go_loopw [6, 27] (fun sv iv wr => ∃ (j : Nat) (s : Value), j ≤ ls.length ∧ iv = .int .i64 j ∧ s = sv ∧ wr.ownsRow w.heap.size 61 5 s (ls.take j).flatten.length (knE.vs (ls.take j).flatten) ∧ Below w.heap.size w wr)
        (fun _ iv _ => ls.length - (intOf iv).toNat)
      case atStart => exact ⟨0, _, by omega, rfl, rfl, by simpa using hown1, hb1⟩
      case round =>
        obtain ⟨j, s, hj, rfl, rfl, hown, hbel⟩ := hrel
        have hle := flatK_le (ls := ls) j
        by_cases hlt : j < ls.length
        · obtain ⟨l, hx⟩ : ∃ x, ls[j]? = some x := ⟨_, List.getElem?_eq_getElem hlt⟩
          obtain ⟨b, off, u, rfl, hb, hc, hru⟩ := (hv.below hbel).here hx
          obtain ⟨uo, uc, huu, hu1, hu2⟩ := hru.shape
          subst huu
          have hk1 : (0 : Int) ≤ (j : Int) := by omega
          have hk2 : (j : Int) < (ls.length : Int) := by omega
          have hle2 := flatK_le (ls := ls) (j + 1)
          have HT := hide (takeK_flat hx)
          rw [takeK_flat hx, List.length_append] at hle2
          generalize (ls.take j).flatten = F at *
          obtain ⟨so, sc, hso⟩ : ∃ ao cap, s = .slice ao F.length cap := by
            rcases hown.2 with ⟨rfl, hn⟩ | ⟨g, cap, cur, rfl, _⟩
            · exact ⟨none, 0, by rw [hn]⟩
            · exact ⟨_, _, rfl⟩
          subst hso
          have h63 : F.length + l.length ≤ 1000000000 := by omega
          have hbs := hbel.size
          clear hx
          go_wp2_with (at_builtin; go_must (refine wpList_append_rdG hown hru Try.underlying59 infoKnown rfl rfl rfl rfl rfl h63 (by decide) hbs ?_); intro v2 w2 hown2 hb2 hg2; clear hg2)
          go_roundw
          case rel => exact ⟨j + 1, _, by omega, by go_num, rfl, by rw [HT.out, List.length_append]; exact hown2, hbel.trans hb2⟩
          case measure => simp [intOf]; omega
        · have hje : j = ls.length := by omega
          subst hje
          rw [List.take_length] at hown
          go_wp2_with fail
          go_ret
          exact ⟨_, rfl, hown, hbel⟩


set_option maxRecDepth 100000 in
set_option maxHeartbeats 4000000 in
theorem learntK_any (v : Value) (l : List Kn) (k : Kn) (w : World) (hv : RdG knE w v l) (hl : l.length ≤ 1000) :
    Calls Try.prog 50 #[v, .agg #[.string k.p.fr, .string k.p.to_, .int .i64 k.p.id, .int .i64 k.ho, .int .i64 k.tu]] w fun e w' => ∃ v', e = .returned v' ∧ w'.ownsRow w.heap.size 61 5 v' (lrn l k).length (knE.vs (lrn l k)) ∧ Below w.heap.size w w' := by
  have hA := below_allocG w (.cells #[.string k.p.fr, .string k.p.to_, .int .i64 k.p.id, .int .i64 k.ho, .int .i64 k.tu] 61)
  have HA := hide hA
  have HC := hide (Blk.new w 61 #[.string k.p.fr, .string k.p.to_, .int .i64 k.p.id, .int .i64 k.ho, .int .i64 k.tu])
  have HV := hide (hv.below hA)
  obtain ⟨ao, cap, rfl, hc1, hc2⟩ := hv.shape
  have HLR : Hid (lrn l k = (l.filter fun x => ahK x.p k.p) ++ k :: (l.filter fun x => ahK k.p x.p)) := hide rfl
  have HL1 := hide (List.length_filter_le (fun x : Kn => ahK x.p k.p) l)
  have HL2 := hide (List.length_filter_le (fun x : Kn => ahK k.p x.p) l)
  generalize hW : w.alloc (.cells #[.string k.p.fr, .string k.p.to_, .int .i64 k.p.id, .int .i64 k.ho, .int .i64 k.tu] 61) = W at HA HC HV
  have HT1 := hide (those1_any k w.heap.size _ l W HV.out hl HC.out)
  have HT2 := hide (fun W2 (hb : Below W.heap.size W W2) => those2_any k w.heap.size _ l W2 (HV.out.below hb) hl (HC.out.later hb))
  generalize (l.filter fun x => ahK x.p k.p) = F1 at *
  generalize (l.filter fun x => ahK k.p x.p) = F2 at *
  have hfl : ([F1, [k], F2] : List (List Kn)).flatten.length ≤ 100000 := by
    have := HL1.out
    have := HL2.out
    simp
    omega
  have hfe : ([F1, [k], F2] : List (List Kn)).flatten = lrn l k := by rw [HLR.out]; simp
  have HFL := hide hfl
  have HFE := hide hfe
  generalize lrn l k = R at *
  clear hv hA hfl hfe
  go_enter Try.func50, Try.ntmps50
  go_upto_region 1 with fail
  try rw [hW]
  clear hW
  go_upto_region 3 with (first
    | (go_at_call 82; refine HT3.out.mono ?_; rintro e w2 ⟨v2, rfl, ho2, hb2⟩; obtain ⟨a2, k2, rfl⟩ := owns_shapeA ho2; have HO2 := hide ho2; have HB2 := hide hb2; clear ho2 hb2)
    | (go_at_call 82; refine HT1.out.mono ?_; rintro e w1 ⟨v1, rfl, ho1, hb1⟩; obtain ⟨a1, k1, rfl⟩ := owns_shapeA ho1; have HO1 := hide ho1; have HB1 := hide hb1; have HT3 := hide (HT2.out _ hb1); clear ho1 hb1))
  have HC2 := hide ((HC.out.later HB1.out).later HB2.out)
  have HX2 := hide (HA.out.trans ((HB1.out.trans (HB2.out.mono HB1.out.size)).mono HA.out.size))
  have HO3 := hide ((RdG.ofOwns HO1.out).below HB2.out)
  have HO4 := hide (RdG.ofOwns HO2.out)
  clear HT1 HT2 HT3 HO1 HO2 HB1 HB2 HC HV HA
  have hbK := below_allocG w2 (.cells #[.string k.p.fr, .string k.p.to_, .int .i64 k.p.id, .int .i64 k.ho, .int .i64 k.tu] 61)
  have HKL : Hid (RdG knE (w2.alloc (.cells #[.string k.p.fr, .string k.p.to_, .int .i64 k.p.id, .int .i64 k.ho, .int .i64 k.tu] 61)) (.slice (some ⟨w2.heap.size, 0, none⟩) 1 1) [k]) := hide (RdG.newL (E := knE) w2 [k] 61 #[.string k.p.fr, .string k.p.to_, .int .i64 k.p.id, .int .i64 k.ho, .int .i64 k.tu] rfl (by simp))
  have HO5 := hide (HO3.out.below hbK)
  have HO6 := hide (HO4.out.below hbK)
  have HX3 := hide (HX2.out.trans (hbK.mono HX2.out.size))
  generalize hW3 : w2.alloc (.cells #[.string k.p.fr, .string k.p.to_, .int .i64 k.p.id, .int .i64 k.ho, .int .i64 k.tu] 61) = W3 at HKL HO5 HO6 HX3
  have hbL := below_allocG W3 (.cells #[.slice a1 F1.length k1, .slice (some ⟨w2.heap.size, 0, none⟩) 1 1, .slice a2 F2.length k2] 59)
  have HLL := hide (RdLG.three W3 59 HO5.out HKL.out HO6.out)
  have HX4 := hide (HX3.out.trans (hbL.mono HX3.out.size))
  generalize hW4 : W3.alloc (.cells #[.slice a1 F1.length k1, .slice (some ⟨w2.heap.size, 0, none⟩) 1 1, .slice a2 F2.length k2] 59) = W4 at HLL HX4
  have HCC := hide (concatK_any _ [F1, [k], F2] W4 HLL.out HFL.out)
  rw [HFE.out] at HCC
  clear hbK hbL HO3 HO4 HO5 HO6 HKL
  go_wp2_with (first
    | (refine wpList_load_blk HC2.out Try.underlying61 rfl Try.sizeKnown rfl rfl rfl ?_)
    | (go_at_call 85; refine HCC.out.mono ?_; rintro e w5 ⟨v5, rfl, ho5, hb5⟩; have HO7 := hide (owns_base1 ho5 HX4.out.size); have HX5 := hide (HX4.out.trans (hb5.mono HX4.out.size)); clear ho5 hb5))
  go_ret
  exact ⟨_, rfl, HO7.out, HX5.out⟩

end Go.Proofs.Ytoeobhehjnkkkaa
