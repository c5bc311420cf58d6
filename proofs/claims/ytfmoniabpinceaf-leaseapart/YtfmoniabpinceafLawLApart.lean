/-
  The walk over the law LeaseApart.
-/
import Derived.Test.YtfmoniabpinceafLeaseF5
import Derived.Test.YtfmoniabpinceafLeaseP3
import Derived.Test.YtfmoniabpinceafLawLFence
import Derived.Maps.OwnSet
namespace Go.Proofs.Ytfmoniabpinceaf
open Go.RowKit Go.Maps
set_option linter.unusedVariables false

theorem lawIntL : Keyed Try.prog 3 := int_keyed Try.underlying3

theorem zeroIntL (w : World) : (zeroValue 3).run Try.prog w = .ok (.int .i64 0) w := by kernel_rfl

theorem infoDd : (Try.prog.info? 70).map (fun i => (i.zero, i.size, i.bytes)) = some (some (.agg #[.int .i64 0, .int .i64 0, .int .i64 0]), 3, 24) := by kernel_rfl

theorem RdG.grownN {α : Type} {K : Nat} {E : En α K} {w w' : World} {v : Value} {xs : List α} {B R : Nat} (hr : RdG E w v xs) (hv : New B v) (hg : w.grownBy w' (some R)) (hR : R < B) : RdG E w' v xs := by
  obtain ⟨ao, cap, rfl, h1, h2, h3, h4⟩ := hr
  refine ⟨ao, cap, rfl, h1, h2, h3, fun a ha j u hu => ?_⟩
  have hc := h4 a ha j u hu
  have hlt := World.block_lt_of_cell? w _ hc
  have e : (a.add j).block = a.block := by unfold Addr.add; split <;> rfl
  have hb := hv a _ _ (by rw [ha])
  rw [← hc]
  exact World.cell?_of_block (hg.block _ hlt (by rw [e]; intro q; cases q; omega))

theorem RdG.first {α : Type} {K : Nat} {E : En α K} {w : World} {ao : Option Addr} {n cap k : Nat} {xs : List α} (h : RdG E w (.slice ao n cap) xs) (hk : k ≤ n) : RdG E w (.slice ao k cap) (xs.take k) := by
  obtain ⟨ao', cap', hv, h1, h2, h3, h4⟩ := h
  simp only [Value.slice.injEq] at hv
  obtain ⟨rfl, rfl, rfl⟩ := hv
  have hl : (xs.take k).length = k := by rw [List.length_take]; omega
  refine ⟨ao, cap, by rw [hl], by omega, h2, h3, fun a ha j u hu => ?_⟩
  have hj : j < k * K := by
    have := (List.getElem?_eq_some_iff.1 hu).1
    rwa [vs_length, hl] at this
  rw [← vs_take, List.getElem?_take, if_pos hj] at hu
  exact h4 a ha j u hu

theorem ownsMap_drewN {w : World} {P : Program} {k : TypeId} {R : Value → Option (DataW Unit × List MemPlace)} {b n : Nat} {D : DataW Unit} (h : w.ownsMap P k R b n D) (p : Nat) : (w.drewN p).ownsMap P k R b n D := h

theorem ownsMap_belowL {w w' : World} {P : Program} {k : TypeId} {R : Value → Option (DataW Unit × List MemPlace)} {b n C : Nat} {D : DataW Unit} (h : w.ownsMap P k R b n D) (hb : Below C w w') (hC : b < C) : w'.ownsMap P k R b n D := by
  obtain ⟨es, clock, hbk, r⟩ := h
  exact ⟨es, clock, by rw [hb.block _ hC]; exact hbk, r⟩

/-- What the map holds: in which epoch who was seen to trust. -/
def MapH (D : DataW Unit) (H : Int → Int) : Prop := IsMap D ∧ ∀ e : Int, Maps.has D (.int .i64 e) = true → D.atKey (.int .i64 e) (.lit (.int .i64 0)) = .lit (.int .i64 (H e))

theorem MapH.zero (H : Int → Int) : MapH (.map []) H := ⟨isMap_empty, fun e h => by simp [Maps.has] at h⟩

theorem MapH.put {D : DataW Unit} {H : Int → Int} (h : MapH D H) {e : Int} : MapH (D.put (.int .i64 e) (.lit (.int .i64 (H e)))) H := by
  obtain ⟨hm, h⟩ := h
  refine ⟨hm.put _ _, fun x hx => ?_⟩
  by_cases q : e = x
  · subst q
    rw [atKey_put_same (k := .int .i64 e) hm trivial]
  · have hne : (Lit.int .i64 x) ≠ Lit.int .i64 e := fun h => q (by simpa using h.symm)
    rw [atKey_put_other hne]
    rw [has_put_other hne] at hx
    exact h x hx

theorem mem_trL {c : Ct} {j : Nat} {x : Int} : x ∈ trL c j ↔ ∃ k : Nat, k < j ∧ x = k ∧ trustsC c k := by
  unfold trL trustsC
  simp only [List.mem_map, List.mem_filter, List.mem_range, decide_eq_true_eq]
  constructor
  · rintro ⟨k, ⟨h1, h2⟩, rfl⟩; exact ⟨k, h1, rfl, h2⟩
  · rintro ⟨k, h1, rfl, h2⟩; exact ⟨k, ⟨h1, h2⟩, rfl⟩

theorem trL_nodup (c : Ct) (j : Nat) : (trL c j).Nodup := by
  unfold trL
  refine List.Pairwise.map _ ?_ (List.Pairwise.filter _ List.nodup_range)
  intro a b h
  omega

theorem one_only {l : List Int} (hn : l.Nodup) (h : ∀ x ∈ l, ∀ y ∈ l, x = y) : l.length ≤ 1 := by
  match l, hn, h with
  | [], _, _ => simp
  | [x], _, _ => simp
  | x :: y :: r, hn, h =>
    have := h x (by simp) y (by simp)
    subst this
    simp at hn

/-- All that the law wants of a moment. -/
structure MomL (span : Int) (n : Nat) (ds : List Dd) (H : Int → Int) (is : Bool) (i : Nat) : Prop where
  cl : (runC span n ds i).clocks.length = n
  tl : (runC span n ds i).trusts.length = n
  ep : ∀ j, j ≤ i → (runC span n ds j).lease.ep ≤ (runC span n ds i).lease.ep
  ep0 : 0 ≤ (runC span n ds i).lease.ep ∧ (runC span n ds i).lease.ep ≤ 1000000000000
  one : is = true → (trL (runC span n ds i) n).length ≤ 1
  each : ∀ (k : Nat) (x : Int), (trL (runC span n ds i) n)[k]? = some x → ∃ (K : Nat) (t : Tr), K < n ∧ x = K ∧ (runC span n ds i).trusts[K]? = some t ∧ 1 ≤ t.ep ∧ t.ep ≤ (runC span n ds i).lease.ep ∧ H t.ep = K

theorem lget_some {α : Type} {l : List α} {i : Nat} {d x : α} (h : l[i]? = some x) : lget l (i : Int) d = x := by simp [lget, List.getD, h]

theorem doC_ep {c : Ct} {span : Int} {d : Dd} : (doC c span d).lease.ep ≤ c.lease.ep + 1 := by
  have hle : c.lease.ep ≤ c.lease.ep + 1 := by omega
  unfold doC
  split
  · exact hle
  split
  · exact hle
  split
  · exact hle
  split
  · dsimp only
    split
    · rename_i hf
      show (heardL c.lease (lget c.wishes d.n ⟨0, 0, 0⟩) c.now span).ep ≤ c.lease.ep + 1
      unfold heardF at hf
      unfold heardL
      split at hf
      · rw [if_pos (by assumption), (renewL_eq hf).1]
        exact hle
      · rw [if_neg (by assumption), (grantL_eq hf).1]
        exact Int.le_refl _
    · exact hle
  split
  · dsimp only
    split
    · exact hle
    · exact hle
  split
  · exact hle
  split
  · exact hle
  split
  · exact hle
  · exact hle

theorem ep_le {span : Int} {n : Nat} {ds : List Dd} : ∀ i, i ≤ ds.length → (runC span n ds i).lease.ep ≤ i
  | 0, _ => by simp [runC, court0, zeroLs]
  | i + 1, hi => by
    obtain ⟨d, hd⟩ : ∃ d, ds[i]? = some d := ⟨_, List.getElem?_eq_getElem (by omega)⟩
    have h1 := ep_le (span := span) (n := n) (ds := ds) i (by omega)
    have h2 := doC_ep (c := runC span n ds i) (span := span) (d := d)
    rw [runC_get hd]
    omega

theorem moms {span : Int} {n : Nat} {ds : List Dd} (hbad : (badAt span (court0 n) ds 0).1 = 0) (hsp : 4 ≤ span ∧ span ≤ 1000000) (hn : n ≤ 8) (hlen : ds.length ≤ 2000) : ∃ H : Int → Int, ∀ i, i ≤ ds.length → MomL span n ds H (fairB (momO span n ds ds.length) span) i := by
  have hok := ok_of hbad
  obtain ⟨H, _, _, hall⟩ := run_ok hok ds.length (Nat.le_refl _)
  refine ⟨H, fun i hi => ?_⟩
  have hw := wf_of hbad hsp hn i hi
  obtain ⟨hle, htr⟩ := hall i hi
  have hmono : ∀ j, j ≤ i → (runC span n ds j).lease.ep ≤ (runC span n ds i).lease.ep := fun j hj => by
    obtain ⟨_, _, _, h⟩ := run_ok hok i hi
    exact (h j hj).1
  refine ⟨hw.cl, hw.tl, hmono, ⟨hw.ep, by have := ep_le (span := span) (n := n) (ds := ds) i hi; omega⟩, fun his => ?_, fun k x hk => ?_⟩
  · refine one_only (trL_nodup _ _) fun x hx y hy => ?_
    obtain ⟨a, ha, rfl, hta⟩ := mem_trL.1 hx
    obtain ⟨b, hb, rfl, htb⟩ := mem_trL.1 hy
    rw [apart hok (fair_of hok his) hi ha hb hta htb]
  · obtain ⟨K, hK, rfl, hT⟩ := mem_trL.1 (List.mem_of_getElem? hk)
    obtain ⟨t, ht⟩ : ∃ t, (runC span n ds i).trusts[K]? = some t := ⟨_, List.getElem?_eq_getElem (by rw [hw.tl]; exact hK)⟩
    obtain ⟨a1, a2, a3, _⟩ := htr K hK hT
    rw [lget_some ht] at a1 a2 a3
    exact ⟨K, t, hK, rfl, ht, a1, a2, a3⟩

set_option maxRecDepth 100000 in
set_option maxHeartbeats 16000000 in
theorem leaseApart_any (span clients : Int) (v : Value) (ds : List Dd) (w : World) (hv : RdG ddE w v ds) :
    Calls Try.prog 8 #[.int .i64 span, .int .i64 clients, v] w fun e w' => e = .returned (.bool true) ∧ Below w.heap.size w w' := by
  have HV := hide hv
  have HBG := hide (leaseBegun_any w)
  obtain ⟨ao, cap, rfl, hc1, hc2⟩ := hv.shape
  unfold maxLen at hc2
  have hmm := @run_makeMap Try.prog
  clear hv
  go_enter Try.func8, Try.ntmps8
  go_wp2_with fail
  refine HBG.out.mono ?_
  rintro e w1 ⟨rfl, hb1⟩
  have HB1 := hide hb1
  have hs1 := hb1.size
  clear hb1
  by_cases hbig : 150 < ds.length
  · go_wp2_with fail
    go_ret
    exact ⟨rfl, HB1.out⟩
  have HFA := hide (Fair_any span clients _ ds w1 (HV.out.below HB1.out))
  have HPR : Hid (playR span clients ds = playR span clients ds) := hide rfl
  have HFR : Hid (fairR span clients ds = if (playR span clients ds).1 = 0 then fairB (momO span clients.toNat ds ds.length) span else false) := hide rfl
  have HOK := hide (fun h => play_ok (span := span) (clients := clients) (ds := ds) h)
  go_wp2_with fail
  refine HFA.out.mono ?_
  rintro e w2 ⟨rfl, hb2⟩
  have HB2 := hide (HB1.out.trans (hb2.mono hs1))
  have hs2 := HB2.out.size
  generalize hF : playR span clients ds = F at *
  obtain ⟨x, y⟩ := F
  have HPR := hide hF
  clear hb2 hF
  unfold flt
  by_cases hx : x = 0
  · subst hx
    obtain ⟨n, hn, hn1, hn8, hsp, hlen, hbad, htk⟩ := HOK.out rfl
    subst hn
    have hfr := HFR.out.trans (if_pos rfl)
    rw [Int.toNat_natCast] at hfr
    obtain ⟨H, hmom⟩ := moms hbad hsp hn8 hlen
    rw [← hfr] at hmom
    have HMOM := hide hmom
    have HTK := hide htk
    clear hmom htk hfr hbad hsp HFR HOK HPR HFA
    generalize fairR span n ds = is at *
    have hD := World.ownsMap_made (w2.alloc (.cells #[.int .i64 0, .int .i64 y] 26)) Try.prog 3 (plainElem (H := Unit) Try.prog 3)
    have HD0 := hide hD
    clear hD
    go_wp2_with fail
    go_loopw [10, 11] (fun lv iv wr => ∃ (i m : Nat) (last : Int) (D : DataW Unit), i ≤ ds.length + 1 ∧ iv = .int .i64 i ∧ lv = .int .i64 last ∧ (∀ k, i ≤ k → k ≤ ds.length → last ≤ (runC span n ds k).lease.ep) ∧ m ≤ 8 * i ∧ wr.ownsMap Try.prog 3 (plainElem Try.prog 3) (w2.heap.size + 1) m D ∧ MapH D H ∧ Below w.heap.size w wr)
      (fun _ iv _ => ds.length + 1 - (intOf iv).toNat)
    case atStart =>
      refine ⟨0, 0, 0, _, by omega, rfl, rfl, fun k _ hk => (HMOM.out k hk).ep0.1, by omega, by simpa using HD0.out, MapH.zero H, ?_⟩
      exact HB2.out.trans (by go_grown)
    case round =>
      obtain ⟨i, m, last, D, hi, rfl, rfl, hlast, hm, hown, hmap, hbr⟩ := hrel
      have HOWN := hide hown
      have HMAP := hide hmap
      have HBR := hide hbr
      have hsr := hbr.size
      have hmlt := hown.lt
      by_cases hle : i ≤ ds.length
      · obtain ⟨hR0, hC0⟩ := HTK.out i hle
        have hML := HMOM.out i hle
        have hlt2 : (ds.take i).length = i := by rw [List.length_take]; omega
        have hvi : RdG ddE wr (.slice ao i cap) (ds.take i) := (HV.out.below hbr).first hle
        have hPL := Play_any span n _ (ds.take i) wr hvi
        rw [hR0, hC0] at hPL
        have HPL := hide hPL
        have hep := hlast i (Nat.le_refl _) hle
        have hik : (i : Int) ≤ (ds.length : Int) := by omega
        have HCL := hide hML.cl
        have HTL := hide hML.tl
        have HONE := hide hML.one
        have HEACH := hide hML.each
        have HEP0 := hide hML.ep0
        clear hR0 hC0 hML hvi hPL hown hmap hbr hlast
        generalize hC : runC span n ds i = C at *
        have HCE := hide hC
        go_wp2_with fail
        refine HPL.out.mono ?_
        rintro e w3 ⟨vc, vt, vw, vr, rfl, hrd, hnew, hb3⟩
        obtain ⟨co, cc9, rfl, _, _⟩ := hrd.1.shape
        obtain ⟨to_, tc9, rfl, _, _⟩ := hrd.2.1.shape
        obtain ⟨wo, wc9, rfl, _, _⟩ := hrd.2.2.1.shape
        obtain ⟨ro, rc9, rfl, _, _⟩ := hrd.2.2.2.shape
        have HRD := hide hrd
        have HNW := hide hnew
        have HB3 := hide (HBR.out.trans (hb3.mono hsr))
        have HS3 := hide hb3.size
        have HC := hide (Blk.at0of2 w3 (.cells #[.int .i64 0, .int .i64 0] 26) 64 #[.int .i64 0, .int .i64 0, .int .i64 0, .int .i64 0, .slice none 0 0, .slice none 0 0, .slice none 0 0, .slice none 0 0])
        have HF := hide (Blk.at1 w3 (.cells #[.int .i64 0, .int .i64 0, .int .i64 0, .int .i64 0, .slice none 0 0, .slice none 0 0, .slice none 0 0, .slice none 0 0] 64) 26 #[.int .i64 0, .int .i64 0])
        have HA := hide (below_alloc2 w3 (.cells #[.int .i64 0, .int .i64 0, .int .i64 0, .int .i64 0, .slice none 0 0, .slice none 0 0, .slice none 0 0, .slice none 0 0] 64) (.cells #[.int .i64 0, .int .i64 0] 26))
        have HOW3 := hide (ownsMap_belowL HOWN.out hb3 hmlt)
        have hne : some (w3.heap.size + 1) ≠ some w3.heap.size := by simp
        clear hrd hnew hb3 hC HPL
        unfold flt ctV
        go_wp2_with (first
          | (refine wpList_store_blk rfl rfl rfl rfl HC.out rfl Try.sizeCourt rfl ?_
             intro w4 hC4 hg4
             have HG4 := hide hg4
             have HC4 := hide hC4
             have HF4 := hide (HF.out.grown hg4 hne)
             clear hC4 hg4)
          | (refine wpList_store_blk rfl rfl rfl rfl HF4.out rfl Try.sizeFault rfl ?_
             intro w5 hF5 hg5
             have HF5 := hide hF5
             have HG5 := hide hg5
             have HC5 := hide (HC4.out.grown hg5 hne.symm)
             clear hF5 hg5
             refine stopHere ?_))
        have hbA : Below w3.heap.size w3 w5 := below_grown (below_grown HA.out HG4.out (by omega) HA.out.size) HG5.out (by omega) (Nat.le_trans HA.out.size HG4.out.size)
        have hw5 : w3.heap.size + 1 < w5.heap.size := HF5.out.lt
        have fc0 := HF5.out.cell 0
        have cc1 := HC5.out.cell 1
        have cc2 := HC5.out.cell 2
        have cc4 := HC5.out.cell 4
        have cc5 := HC5.out.cell 5
        simp at fc0 cc1 cc2 cc4 cc5
        have hl1 : ((C.clocks.length : Int) != (n : Int)) = false := by rw [HCL.out]; simp
        have hl2 : ((C.trusts.length : Int) != (n : Int)) = false := by rw [HTL.out]; simp
        have hep2 : ¬ (C.lease.ep < last) := by omega
        have HTR := hide (Trusting_any C _ _ (.slice wo C.wishes.length wc9) (.slice ro C.replies.length rc9) w5 (HRD.out.1.below hbA) (HRD.out.2.1.below hbA) (HTL.out.trans HCL.out.symm) (by rw [HCL.out]; exact hn8))
        have HOW5 := hide (ownsMap_belowL HOW3.out hbA (by have := HS3.out; omega))
        have HB5 := hide (HB3.out.trans (hbA.mono (Nat.le_trans hsr HS3.out)))
        have HBA := hide hbA
        have hs35 := HS3.out
        clear hbA
        refine goOnHere ?_
        go_wp2_with (refine wpList_load_blk HC5.out Try.underlying64 rfl Try.sizeCourt rfl rfl rfl ?_)
        refine HTR.out.mono ?_
        rintro e w6 ⟨vl, rfl, hrl, hnl, hb6⟩
        rw [HCL.out] at hrl
        obtain ⟨lo, lc9, rfl, _, _⟩ := hrl.shape
        have HRL := hide hrl
        have HNL := hide hnl
        have HRT := hide ((HRD.out.2.1.below HBA.out).below hb6)
        have HNT := hide (HNW.out.2.1)
        have HC6 := hide (HC5.out.later hb6)
        have HOW6 := hide (ownsMap_belowL HOW5.out hb6 (by omega))
        have HB6 := hide (HB5.out.trans (hb6.mono (Nat.le_trans hsr (by omega))))
        have hs6 := hb6.size
        clear hrl hnl hb6 fc0 cc1 cc2 cc4 cc5 hl1 hl2 hep2 HTR HF5
        have hlL : (trL C n).length ≤ 8 := Nat.le_trans (trL_len C n) hn8
        have hone : is = true → ¬ (1 < (trL C n).length) := fun q => by have := HONE.out q; omega
        generalize hL : trL C n = L at *
        cases is
        case' true => have hone3 : ¬ (1 < (L.length : Int)) := by have := hone rfl; omega
        all_goals
          clear hone
          go_upto_if 86 with fail
          go_wp2_with fail
          go_loopw [15] (fun kv wq => ∃ (k m' : Nat) (D' : DataW Unit), k ≤ L.length ∧ kv = .int .i64 k ∧ m' ≤ 8 * i + k ∧ wq.ownsMap Try.prog 3 (plainElem Try.prog 3) (w2.heap.size + 1) m' D' ∧ MapH D' H ∧ Blk wq w3.heap.size 64 #[.int .i64 C.now, .int .i64 C.lease.hold, .int .i64 C.lease.ep, .int .i64 C.lease.til, .slice co C.clocks.length cc9, .slice to_ C.trusts.length tc9, .slice wo C.wishes.length wc9, .slice ro C.replies.length rc9] ∧ RdG iE wq (.slice lo L.length lc9) L ∧ RdG tE wq (.slice to_ C.trusts.length tc9) C.trusts ∧ Below w.heap.size w wq)
            (fun kv _ => L.length - (intOf kv).toNat)
          case atStart => exact ⟨0, m, D, by omega, rfl, by omega, HOW6.out, HMAP.out, HC6.out, HRL.out, HRT.out, HB6.out⟩
          case round =>
            obtain ⟨k, m', D', hk, rfl, hm', hown', hmap', hC', hrl', hrt', hb'⟩ := hrel
            have HO := hide hown'
            have HM := hide hmap'
            have HCB := hide hC'
            have HRLk := hide hrl'
            have HRTk := hide hrt'
            have HBk := hide hb'
            have hsk := hb'.size
            by_cases hkl : k < L.length
            · obtain ⟨x, hx⟩ : ∃ x, L[k]? = some x := ⟨_, List.getElem?_eq_getElem hkl⟩
              obtain ⟨K, t, hK, rfl, ht, ht1, ht2, hHt⟩ := HEACH.out k x hx
              obtain ⟨b1, o1, rfl, hb1, q1⟩ := hrl'.hereI hx
              obtain ⟨b2, o2, rfl, hb2, hat⟩ := hrt'.here ht
              have q2 := hat 0 _ rfl
              simp only [Nat.add_zero] at q2
              have cc5 := hC'.cell 5
              have cl := hC'.lt
              simp at cc5
              have hk1 : (0 : Int) ≤ (k : Int) := by omega
              have hk2 : (k : Int) < (L.length : Int) := by omega
              have hk3 : (0 : Int) ≤ (K : Int) := by omega
              have hk4 : (K : Int) < (C.trusts.length : Int) := by rw [HTL.out]; omega
              have hep := HEP0.out
              have hkey : keyOf Try.prog 3 (.int .i64 t.ep) = some (.int .i64 t.ep) := keyOf_int_mk Try.underlying3 (WalkArith.wf_i64 (by omega))
              have hwk : (Lit.int .i64 (K : Int)).wf = true := WalkArith.wf_i64 (by omega)
              have hmx : m' < maxLen := by unfold maxLen; omega
              have HHT := hide hHt
              have HNE := hide (show some w3.heap.size ≠ some (w2.heap.size + 1) from fun q => by simp at q; omega)
              have HLT1 := hide (show w2.heap.size + 1 < w5.heap.size by omega)
              have HLT2 := hide hmlt
              have HLT3 := hide (show w.heap.size ≤ w2.heap.size + 1 by omega)
              have HLT4 := hide hsk
              generalize hHS : Maps.has D' (.int .i64 t.ep) = HS
              have HCI : Hid (HS = true → ∀ c : Int, D'.atKey (.int .i64 t.ep) (.lit (.int .i64 0)) = .lit (.int .i64 c) → c = K) := hide (fun q c hc => by
                have := hmap'.2 t.ep (hHS.trans q)
                rw [hc, hHt] at this
                simpa using this)
              obtain ⟨te, tt⟩ := t
              simp only at q2 ht1 ht2 hkey hHS
              have e1 : ¬ (te < 1) := by omega
              have e2 : ¬ (C.lease.ep < te) := by omega
              clear hown' hmap' hC' hrl' hrt' hb' hat hx ht hHt hep ht1 ht2
              cases HS
              case' false =>
                go_wp2_with fail
                go_quiet (fail)
                go_wp2_with (first
                  | (at_lookup; refine wpList_lookup_own_ok_int _ rfl _ _ 77 rfl 3 3 .i64 lawIntL Try.underlying77 Try.underlying3 (zeroIntL _) (w2.heap.size + 1) m' D' rfl (ownsMap_drewN HO.out _) _ _ rfl hkey ?_; intro c hat hwc; rw [hHS]; clear hat hwc)
                  | (at_mapUpdate; refine wpList_mapUpdate_own _ rfl _ _ _ 77 rfl 3 3 lawIntL Try.underlying77 _ (w2.heap.size + 1) m' D' rfl (ownsMap_drewN HO.out _) hmx _ _ _ rfl rfl hkey _ [] (plainElem_int Try.underlying3 hwk) ?_; intro w7 hown7 hg7)
                  | go_in)
                have hg8 : wr.grownBy w7 (some (w2.heap.size + 1)) := ⟨hg7.os, hg7.tape, hg7.output, hg7.size, hg7.block⟩
                have hm8 := HM.out.put (e := te)
                rw [HHT.out] at hm8
                have hC8 := HCB.out.grown hg8 HNE.out
                have hl8 := HRLk.out.grownN HNL.out hg8 HLT1.out
                have ht8 := HRTk.out.grownN HNT.out hg8 HLT2.out
                have hb8 := below_grown HBk.out hg8 HLT3.out HLT4.out
                clear hg7 hg8
                go_wp2_with fail
                go_roundw
                case rel => exact ⟨k + 1, m' + 1, _, by omega, by go_num, by omega, hown7, hm8, hC8, hl8, ht8, hb8⟩
                case measure => simp [intOf]; omega
              case' true =>
                have hcc := HCI.out rfl
                have HCC := hide hcc
                clear hcc
                go_wp2_with fail
                go_quiet (fail)
                go_wp2_with (first
                  | (at_lookup; refine wpList_lookup_own_ok_int _ rfl _ _ 77 rfl 3 3 .i64 lawIntL Try.underlying77 Try.underlying3 (zeroIntL _) (w2.heap.size + 1) m' D' rfl (ownsMap_drewN HO.out _) _ _ rfl hkey ?_; intro c hat hwc; rw [hHS, HCC.out c hat]; clear hat hwc)
                  | (at_mapUpdate; refine wpList_mapUpdate_own _ rfl _ _ _ 77 rfl 3 3 lawIntL Try.underlying77 _ (w2.heap.size + 1) m' D' rfl (ownsMap_drewN HO.out _) hmx _ _ _ rfl rfl hkey _ [] (plainElem_int Try.underlying3 hwk) ?_; intro w7 hown7 hg7)
                  | go_in)
                have hg8 : wr.grownBy w7 (some (w2.heap.size + 1)) := ⟨hg7.os, hg7.tape, hg7.output, hg7.size, hg7.block⟩
                have hm8 := HM.out.put (e := te)
                rw [HHT.out] at hm8
                have hC8 := HCB.out.grown hg8 HNE.out
                have hl8 := HRLk.out.grownN HNL.out hg8 HLT1.out
                have ht8 := HRTk.out.grownN HNT.out hg8 HLT2.out
                have hb8 := below_grown HBk.out hg8 HLT3.out HLT4.out
                clear hg7 hg8
                go_wp2_with fail
                go_roundw
                case rel => exact ⟨k + 1, m' + 1, _, by omega, by go_num, by omega, hown7, hm8, hC8, hl8, ht8, hb8⟩
                case measure => simp [intOf]; omega
            · have hke : k = L.length := by omega
              subst hke
              go_wp2_with fail
              go_roundw
              case rel => exact ⟨i + 1, m', C.lease.ep, D', by omega, by go_num, rfl, fun q h1 h2 => by rw [← HCE.out]; exact (HMOM.out q h2).ep i (by omega), by omega, HO.out, HM.out, HBk.out⟩
              case measure => simp [intOf]; omega
      · go_wp2_with fail
        go_ret
        exact ⟨rfl, HBR.out⟩
  · have hq : (x == 0) = false := beq_eq_false_iff_ne.2 hx
    have hq2 : (x != 0) = true := by simp [hx]
    have hfr := HFR.out.trans (if_neg hx)
    rw [hfr]
    clear hx hfr
    go_wp2_with fail
    go_ret
    exact ⟨rfl, HB2.out.trans (by go_grown)⟩

theorem leaseApart_walk (span clients : Int) (v : Value) (ds : List Dd) (w : World) (_ : -9223372036854775808 ≤ span ∧ span ≤ 9223372036854775807) (_ : -9223372036854775808 ≤ clients ∧ clients ≤ 9223372036854775807) (hv : RdG ddE w v ds) :
    Calls Try.prog 8 #[.int .i64 span, .int .i64 clients, v] w fun e w' => e = .returned (.bool true) ∧ Below w.heap.size w w' := leaseApart_any span clients v ds w hv

end Go.Proofs.Ytfmoniabpinceaf
