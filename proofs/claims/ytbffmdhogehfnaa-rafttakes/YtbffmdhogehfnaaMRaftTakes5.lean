/-
  Texts joined: RaftW3, RaftW4, RaftN1, RaftN2, RaftN3, RaftN4, RaftN5.
-/
import Derived.Test.YtbffmdhogehfnaaMRaftTakes4
import Derived.Laws.CopyOwn
/-
  The walks over package raft's areVotes and Check. (Written by rw3.py.)
-/
namespace Go.Proofs.Ytbffmdhogehfnaa
open Go.RowKit Go.Maps
set_option linter.unusedVariables false

theorem lawIntR : Keyed Try.prog 3 := int_keyed Try.underlying3

theorem zeroIntR (w : World) : (zeroValue 3).run Try.prog w = .ok (.int .i64 0) w := by kernel_rfl

/-- A number that is an int. -/
def WfI (v : Int) : Prop := (Lit.int .i64 v).wf = true

theorem WfI.of {v : Int} (h1 : 0 ≤ v) (h2 : v ≤ 1000000000) : WfI v := WalkArith.wf_i64 (by omega)

/-- A look-up of a number, which is known. -/
theorem wpList_lookup_known {P : Program} {w : World} {ops : Array Oper} {rest : List Oper} {o : Oper} {a : Act} {Q : Exit → Act → World → Prop}
    (hg : o.guard = none) (m x : Operand) (t : TypeId) (hop : o.op = Op.lookup t m x false)
    (k e : TypeId) (q : IntKind) (K : Keyed P k) (ht : P.underlying t = some (.map k e)) (he : P.underlying e = some (.int q)) (hz : (zeroValue e).run P w = .ok (.int q 0) w) (b n : Nat) (D : DataW Unit)
    (hm : a.eval m = .map (some b)) (hown : w.ownsMap P k (plainElem P e) b n D) (key : Value) (kl : Lit) (hx : a.eval x = key) (hkey : keyOf P k key = some kl) (c : Int) (hc : D.atKey kl (.lit (.int q 0)) = .lit (.int q c))
    (hK : wpList P ops Q rest (a.put o.dst (.int q c)) w) : wpList P ops Q (o :: rest) a w :=
  wpList_lookup_own_int w hg m x t hop k e q K ht he hz b n D hm hown key kl hx hkey (fun c' hat _ => by
    have e1 : c' = c := by
      have := hat.symm.trans hc
      simpa using this
    rw [e1]
    exact hK)

theorem ownsMap_belowR {w w' : World} {P : Program} {k : TypeId} {R : Value → Option (DataW Unit × List MemPlace)} {b n C : Nat} {D : DataW Unit} (h : w.ownsMap P k R b n D) (hb : Below C w w') (hC : b < C) : w'.ownsMap P k R b n D := by
  obtain ⟨es, clock, hbk, r⟩ := h
  exact ⟨es, clock, by rw [hb.block _ hC]; exact hbk, r⟩

/-- How often each is there, of unlike ones. -/
def TmM (D : DataW Unit) (s : List Int) : Prop := IsMap D ∧ ∀ v : Int, D.atKey (.int .i64 v) (.lit (.int .i64 0)) = .lit (.int .i64 (if v ∈ s then 1 else 0))

theorem TmM.nil : TmM (.map []) [] := ⟨isMap_empty, fun v => by simp [DataW.atKey]⟩

theorem TmM.put {D : DataW Unit} {s : List Int} (h : TmM D s) (v : Int) (hv : v ∉ s) : TmM (D.put (.int .i64 v) (.lit (.int .i64 1))) (s ++ [v]) := by
  obtain ⟨hm, h⟩ := h
  refine ⟨hm.put _ _, fun u => ?_⟩
  by_cases e : v = u
  · subst e
    rw [atKey_put_same (k := .int .i64 v) hm trivial, if_pos (by simp)]
  · have hne : (Lit.int .i64 u) ≠ Lit.int .i64 v := fun q => e (by simpa using q.symm)
    rw [atKey_put_other hne, h u]
    have : (u ∈ s ++ [v]) ↔ u ∈ s := ⟨fun q => (List.mem_append.1 q).elim (fun q => q) (fun q => absurd (List.mem_singleton.1 q).symm e), fun q => List.mem_append_left _ q⟩
    simp only [this]

set_option maxRecDepth 100000 in
set_option maxHeartbeats 4000000 in
theorem areVotes_any (x : Nd) (lv vv nv hv : Value) (w : World) (hx : RdNd w x lv vv nv hv) (hn1 : 1 ≤ x.n) (hn7 : x.n ≤ 7) (hi0 : 0 ≤ x.id) (hi7 : x.id ≤ 7) (hwf : ∀ v ∈ x.votes, WfI v) :
    Calls Try.prog 28 #[ndV x lv vv nv hv] w fun e w' => e = .returned (.bool (votesB x)) ∧ Below w.heap.size w w' := by
  obtain ⟨n, id, te, vo, lo, ro, co, vs, ns, hs⟩ := x
  obtain ⟨h1, h2, h3, h4⟩ := hx
  simp only at h1 h2 h3 h4
  obtain ⟨ao, cap, rfl, hc1, hc2⟩ := h1.shape
  obtain ⟨bo, cap2, rfl, hd1, hd2⟩ := h2.shape
  obtain ⟨no, cap3, rfl, _, _⟩ := h3.shape
  obtain ⟨ho, cap4, rfl, _, _⟩ := h4.shape
  simp only at hn1 hn7 hi0 hi7 hwf
  unfold maxLen at hd2
  have HV := hide h2
  have HB := hide (Blk.new w 25 #[.int .i64 n, .int .i64 id, .int .i64 te, .int .i64 vo, .slice ao lo.length cap, .int .i64 ro, .int .i64 co, .slice bo vs.length cap2, .slice no ns.length cap3, .slice ho hs.length cap4])
  have HA := hide (below_allocG w (.cells #[.int .i64 n, .int .i64 id, .int .i64 te, .int .i64 vo, .slice ao lo.length cap, .int .i64 ro, .int .i64 co, .slice bo vs.length cap2, .slice no ns.length cap3, .slice ho hs.length cap4] 25))
  have HF : Hid (votesB ⟨n, id, te, vo, lo, ro, co, vs, ns, hs⟩ = if ro = 1 then voGo n [] vs && (decide (id ∈ vs) && !mostB vs.length n) else decide (vs.length = 0)) := hide rfl
  have hn0 : 0 ≤ n := by omega
  have hn9 : n ≤ 1000 := by omega
  have HWF := hide hwf
  have hki : keyOf Try.prog 3 (.int .i64 id) = some (.int .i64 id) := keyOf_int_mk Try.underlying3 (WfI.of hi0 (by omega))
  have HKI := hide hki
  unfold ndV ndA
  clear h1 h2 h3 h4 hwf hki hc1 hc2
  by_cases hr : ro = 1
  case neg =>
    have HE := hide (HF.out.trans (if_neg hr))
    have hr2 : (ro != 1) = true := by simp [hr]
    clear hr
    go_enter Try.func28, Try.ntmps28
    go_wp2_with fail
    go_ret
    exact ⟨by rw [HE.out, ← beq0]; rfl, HA.out⟩
  have HG := hide (HF.out.trans (if_pos hr))
  have hr2 : (ro != 1) = false := by simp [hr]
  have hmm := @run_makeMap Try.prog
  clear hr HF
  go_enter Try.func28, Try.ntmps28
  go_wp2_with fail
  go_loopw [17] (fun i wr => ∃ k : Nat, k ≤ vs.length ∧ i = .int .i64 k ∧ voGo n (vs.take k) (vs.drop k) = voGo n [] vs ∧ (∃ D : DataW Unit, wr.ownsMap Try.prog 3 (plainElem Try.prog 3) (w.heap.size + 1) k D ∧ TmM D (vs.take k)) ∧ Blk wr w.heap.size 25 #[.int .i64 n, .int .i64 id, .int .i64 te, .int .i64 vo, .slice ao lo.length cap, .int .i64 ro, .int .i64 co, .slice bo vs.length cap2, .slice no ns.length cap3, .slice ho hs.length cap4] ∧ Below w.heap.size w wr)
    (fun i _ => vs.length - (intOf i).toNat)
  case atStart =>
    refine ⟨0, by omega, rfl, rfl, ⟨_, ?_, TmM.nil⟩, ?_, by go_grown⟩
    · have := World.ownsMap_made (w.alloc (.cells #[.int .i64 n, .int .i64 id, .int .i64 te, .int .i64 vo, .slice ao lo.length cap, .int .i64 ro, .int .i64 co, .slice bo vs.length cap2, .slice no ns.length cap3, .slice ho hs.length cap4] 25)) Try.prog 3 (plainElem (H := Unit) Try.prog 3)
      simpa using this
    · exact (Blk.new w _ _).later (below_allocG _ _)
  case round =>
    obtain ⟨k, hk, rfl, hgo, ⟨D, hown, hmap⟩, hblk, hbel⟩ := hrel
    have HGO := hide hgo
    have HM := hide hmap
    have HBr := hide hblk
    have HBel := hide hbel
    have HO := hide hown
    have a0 := hblk.cell 0
    have a1 := hblk.cell 1
    have a7 := hblk.cell 7
    have al := hblk.lt
    have ml := hown.lt
    simp at a0 a1 a7
    by_cases hlt : k < vs.length
    · obtain ⟨v, hv⟩ : ∃ v, vs[k]? = some v := ⟨_, List.getElem?_eq_getElem hlt⟩
      obtain ⟨b, off, rfl, hb, q⟩ := HV.out.hereI hv
      have q1 : wr.cell? ⟨b, off + k, none⟩ = some (.int .i64 v) := cell_belowG q hbel
      have hbr : b < wr.heap.size := Nat.lt_of_lt_of_le hb hbel.size
      have hk1 : (0 : Int) ≤ (k : Int) := by omega
      have hk2 : (k : Int) < (vs.length : Int) := by omega
      have HKV := hide (show keyOf Try.prog 3 (.int .i64 v) = some (.int .i64 v) from keyOf_int_mk Try.underlying3 (HWF.out v (List.mem_of_getElem? hv)))
      rw [drop_consN hv, voGo] at HGO
      have HT := hide (show vs.take (k + 1) = vs.take k ++ [v] by rw [List.take_add_one, hv]; rfl)
      clear hv q hgo hmap hblk hbel hown
      by_cases hm : v ∈ vs.take k
      · have HC1 := hide (show D.atKey (.int .i64 v) (.lit (.int .i64 0)) = .lit (.int .i64 1) by rw [HM.out.2 v, if_pos hm])
        have HC2 := hide (show (D.put (.int .i64 v) (.lit (.int .i64 2))).atKey (.int .i64 v) (.lit (.int .i64 0)) = .lit (.int .i64 2) from atKey_put_same (k := .int .i64 v) HM.out.1 trivial _ _)
        have HE := hide (show voGo n [] vs = false by rw [← HGO.out]; simp [hm])
        clear hm
        go_wp2_with (first
          | (at_lookup; refine wpList_lookup_known rfl _ _ 73 rfl 3 3 .i64 lawIntR Try.underlying73 Try.underlying3 (zeroIntR _) (w.heap.size + 1) (k + 1) _ rfl HO2.out _ _ rfl HKV.out 2 HC2.out ?_)
          | (at_lookup; refine wpList_lookup_known rfl _ _ 73 rfl 3 3 .i64 lawIntR Try.underlying73 Try.underlying3 (zeroIntR _) (w.heap.size + 1) k _ rfl HO.out _ _ rfl HKV.out 1 HC1.out ?_)
          | (at_mapUpdate; refine wpList_mapUpdate_own _ rfl _ _ _ 73 rfl 3 3 lawIntR Try.underlying73 _ (w.heap.size + 1) k D rfl HO.out (by unfold maxLen; omega) _ _ _ rfl rfl HKV.out _ [] (plainElem_int Try.underlying3 (show (Lit.int .i64 2).wf = true by decide)) ?_; intro w2 hown2 hgrow2; have HO2 := hide hown2; have HW2 := hide hgrow2; have b0 := (HBr.out.grown hgrow2 (by simp)).cell 0; have bl := (HBr.out.grown hgrow2 (by simp)).lt; simp at b0; clear hown2 hgrow2)
          | go_in)
        go_ret
        exact ⟨by rw [HG.out, HE.out]; rfl, below_grownO HBel.out HW2.out (fun j hj => by cases hj; omega) HBel.out.size⟩
      · have HC1 := hide (show D.atKey (.int .i64 v) (.lit (.int .i64 0)) = .lit (.int .i64 0) by rw [HM.out.2 v, if_neg hm])
        have HC2 := hide (show (D.put (.int .i64 v) (.lit (.int .i64 1))).atKey (.int .i64 v) (.lit (.int .i64 0)) = .lit (.int .i64 1) from atKey_put_same (k := .int .i64 v) HM.out.1 trivial _ _)
        have HM2 := hide (HM.out.put v hm)
        have HD := hide (decide_eq_false hm)
        clear hm
        cases hw : wiB v 0 (n - 1)
        · have HE := hide (show voGo n [] vs = false by rw [← HGO.out, hw]; rfl)
          have HW := hide hw
          clear hw
          go_wp2_with (first
            | (at_lookup; refine wpList_lookup_known rfl _ _ 73 rfl 3 3 .i64 lawIntR Try.underlying73 Try.underlying3 (zeroIntR _) (w.heap.size + 1) (k + 1) _ rfl HO2.out _ _ rfl HKV.out 1 HC2.out ?_)
            | (at_lookup; refine wpList_lookup_known rfl _ _ 73 rfl 3 3 .i64 lawIntR Try.underlying73 Try.underlying3 (zeroIntR _) (w.heap.size + 1) k _ rfl HO.out _ _ rfl HKV.out 0 HC1.out ?_)
            | (at_mapUpdate; refine wpList_mapUpdate_own _ rfl _ _ _ 73 rfl 3 3 lawIntR Try.underlying73 _ (w.heap.size + 1) k D rfl HO.out (by unfold maxLen; omega) _ _ _ rfl rfl HKV.out _ [] (plainElem_int Try.underlying3 (show (Lit.int .i64 1).wf = true by decide)) ?_; intro w2 hown2 hgrow2; have HO2 := hide hown2; have HW2 := hide hgrow2; have b0 := (HBr.out.grown hgrow2 (by simp)).cell 0; have bl := (HBr.out.grown hgrow2 (by simp)).lt; simp at b0; clear hown2 hgrow2)
            | (go_at_call 56; refine (isNode_any v n _ hn0 hn9).mono ?_; rw [HW.out]; rintro e w3 ⟨rfl, rfl⟩)
            | go_in)
          go_ret
          exact ⟨by rw [HG.out, HE.out]; rfl, below_grownO HBel.out HW2.out (fun j hj => by cases hj; omega) HBel.out.size⟩
        · have HE := hide (show voGo n (vs.take (k + 1)) (vs.drop (k + 1)) = voGo n [] vs by rw [← HGO.out, hw, HT.out, HD.out]; rfl)
          have HW := hide hw
          clear hw
          go_wp2_with (first
            | (at_lookup; refine wpList_lookup_known rfl _ _ 73 rfl 3 3 .i64 lawIntR Try.underlying73 Try.underlying3 (zeroIntR _) (w.heap.size + 1) (k + 1) _ rfl HO2.out _ _ rfl HKV.out 1 HC2.out ?_)
            | (at_lookup; refine wpList_lookup_known rfl _ _ 73 rfl 3 3 .i64 lawIntR Try.underlying73 Try.underlying3 (zeroIntR _) (w.heap.size + 1) k _ rfl HO.out _ _ rfl HKV.out 0 HC1.out ?_)
            | (at_mapUpdate; refine wpList_mapUpdate_own _ rfl _ _ _ 73 rfl 3 3 lawIntR Try.underlying73 _ (w.heap.size + 1) k D rfl HO.out (by unfold maxLen; omega) _ _ _ rfl rfl HKV.out _ [] (plainElem_int Try.underlying3 (show (Lit.int .i64 1).wf = true by decide)) ?_; intro w2 hown2 hgrow2; have HO2 := hide hown2; have HW2 := hide hgrow2; have b0 := (HBr.out.grown hgrow2 (by simp)).cell 0; have bl := (HBr.out.grown hgrow2 (by simp)).lt; simp at b0; clear hown2 hgrow2)
            | (go_at_call 56; refine (isNode_any v n _ hn0 hn9).mono ?_; rw [HW.out]; rintro e w3 ⟨rfl, rfl⟩)
            | go_in)
          go_roundw
          case rel => exact ⟨k + 1, by omega, by go_num, HE.out, ⟨_, HO2.out, by rw [HT.out]; exact HM2.out⟩, HBr.out.grown HW2.out (by simp), below_grownO HBel.out HW2.out (fun j hj => by cases hj; omega) HBel.out.size⟩
          case measure => simp [intOf]; omega
    · have hke : k = vs.length := by omega
      subst hke
      rw [List.drop_length, voGo] at HGO
      rw [List.take_length] at HM
      clear hgo hmap hblk hbel hown
      by_cases hm : id ∈ vs
      · have HC1 := hide (show D.atKey (.int .i64 id) (.lit (.int .i64 0)) = .lit (.int .i64 1) by rw [HM.out.2 id, if_pos hm])
        have HD := hide (decide_eq_true hm)
        clear hm
        go_wp2_with (first
          | (at_lookup; refine wpList_lookup_known rfl _ _ 73 rfl 3 3 .i64 lawIntR Try.underlying73 Try.underlying3 (zeroIntR _) (w.heap.size + 1) vs.length _ rfl HO.out _ _ rfl HKI.out 1 HC1.out ?_)
          | (go_at_call 60; refine (areMost_any vs.length n _ hn0 hn9).mono ?_; rintro e w3 ⟨rfl, rfl⟩)
          | go_in)
        go_ret
        exact ⟨by rw [HG.out, ← HGO.out, HD.out]; rfl, HBel.out⟩
      · have HC1 := hide (show D.atKey (.int .i64 id) (.lit (.int .i64 0)) = .lit (.int .i64 0) by rw [HM.out.2 id, if_neg hm])
        have HD := hide (decide_eq_false hm)
        clear hm
        go_wp2_with (first
          | (at_lookup; refine wpList_lookup_known rfl _ _ 73 rfl 3 3 .i64 lawIntR Try.underlying73 Try.underlying3 (zeroIntR _) (w.heap.size + 1) vs.length _ rfl HO.out _ _ rfl HKI.out 0 HC1.out ?_)
          | go_in)
        go_ret
        exact ⟨by rw [HG.out, ← HGO.out, HD.out]; rfl, HBel.out⟩

end Go.Proofs.Ytbffmdhogehfnaa

/-
  The walks over package raft's Check and what stands ahead of what is done. (Written by rw4.py.)
-/
namespace Go.Proofs.Ytbffmdhogehfnaa
open Go.RowKit Go.Maps
set_option linter.unusedVariables false

theorem nmF_ok {x : Nd} (h : (nmF x).1 = 0) : 1 ≤ x.n ∧ x.n ≤ 7 ∧ 0 ≤ x.id ∧ x.id < x.n := by
  unfold nmF at h
  by_cases h4 : wiB x.n 1 7 = false ∨ wiB x.id 0 (x.n - 1) = false
  · rw [if_pos h4] at h; simp at h
  simp only [not_or, Bool.not_eq_false, wiB_true] at h4
  obtain ⟨⟨a1, a2⟩, a3, a4⟩ := h4
  exact ⟨a1, a2, a3, by omega⟩

theorem lgF_ok {x : Nd} (h : (lgF x).1 = 0) : x.log.length ≤ 100 := by
  unfold lgF at h
  by_cases h6 : (chkE x.log).1 ≠ 0
  · rw [if_pos h6] at h; exact absurd h h6
  exact (chkE_fine (Decidable.not_not.1 h6)).2

set_option maxRecDepth 100000 in
set_option maxHeartbeats 4000000 in
theorem RCheck_any (x : Nd) (lv vv nv hv : Value) (w : World) (hx : RdNd w x lv vv nv hv) (hwf : ∀ v ∈ x.votes, WfI v) :
    Calls Try.prog 9 #[ndV x lv vv nv hv] w fun e w' => e = .returned (flt (chkN x)) ∧ Below w.heap.size w w' := by
  have HX := hide hx
  obtain ⟨n, id, te, vo, lo, ro, co, vs, ns, hs⟩ := x
  obtain ⟨h1, h2, h3, h4⟩ := hx
  simp only at h1 h2 h3 h4
  obtain ⟨ao, cap, rfl, hc1, hc2⟩ := h1.shape
  obtain ⟨bo, cap2, rfl, hd1, hd2⟩ := h2.shape
  obtain ⟨no, cap3, rfl, _, _⟩ := h3.shape
  obtain ⟨ho, cap4, rfl, _, _⟩ := h4.shape
  have hA := below_alloc2 w (.cells #[.int .i64 n, .int .i64 id, .int .i64 te, .int .i64 vo, .slice ao lo.length cap, .int .i64 ro, .int .i64 co, .slice bo vs.length cap2, .slice no ns.length cap3, .slice ho hs.length cap4] 25) (.cells #[.int .i64 0, .int .i64 0] 30)
  have HB := hide (Blk.at0of2 w (.cells #[.int .i64 0, .int .i64 0] 30) 25 #[.int .i64 n, .int .i64 id, .int .i64 te, .int .i64 vo, .slice ao lo.length cap, .int .i64 ro, .int .i64 co, .slice bo vs.length cap2, .slice no ns.length cap3, .slice ho hs.length cap4])
  have HR := hide (Blk.at1 w (.cells #[.int .i64 n, .int .i64 id, .int .i64 te, .int .i64 vo, .slice ao lo.length cap, .int .i64 ro, .int .i64 co, .slice bo vs.length cap2, .slice no ns.length cap3, .slice ho hs.length cap4] 25) 30 #[.int .i64 0, .int .i64 0])
  have HA := hide hA
  have HF : Hid (chkN ⟨n, id, te, vo, lo, ro, co, vs, ns, hs⟩ = if (nmF ⟨n, id, te, vo, lo, ro, co, vs, ns, hs⟩).1 ≠ 0 then nmF ⟨n, id, te, vo, lo, ro, co, vs, ns, hs⟩ else if (lgF ⟨n, id, te, vo, lo, ro, co, vs, ns, hs⟩).1 ≠ 0 then lgF ⟨n, id, te, vo, lo, ro, co, vs, ns, hs⟩ else if votesB ⟨n, id, te, vo, lo, ro, co, vs, ns, hs⟩ = false ∨ knownB ⟨n, id, te, vo, lo, ro, co, vs, ns, hs⟩ = false then (5, -3) else (0, 0)) := hide rfl
  have HZ1 := hide (nmF_z ⟨n, id, te, vo, lo, ro, co, vs, ns, hs⟩)
  have HZ2 := hide (lgF_z ⟨n, id, te, vo, lo, ro, co, vs, ns, hs⟩)
  have HO1 := hide (@nmF_ok ⟨n, id, te, vo, lo, ro, co, vs, ns, hs⟩)
  have HO2 := hide (@lgF_ok ⟨n, id, te, vo, lo, ro, co, vs, ns, hs⟩)
  have HC1 := hide (rNumbers_any ⟨n, id, te, vo, lo, ro, co, vs, ns, hs⟩ _ _ _ _ _ (HX.out.below hA))
  have HC2 := hide (fun W (hW : Below w.heap.size w W) => rLog_any ⟨n, id, te, vo, lo, ro, co, vs, ns, hs⟩ _ _ _ _ W (HX.out.below hW))
  have HC3 := hide (fun W (hW : Below w.heap.size w W) a b c d => areVotes_any ⟨n, id, te, vo, lo, ro, co, vs, ns, hs⟩ _ _ _ _ W (HX.out.below hW) a b c d hwf)
  have HC4 := hide (fun W (hW : Below w.heap.size w W) a => areKnown_any ⟨n, id, te, vo, lo, ro, co, vs, ns, hs⟩ _ _ _ _ W (HX.out.below hW) a)
  simp only at HC3 HC4 HO1 HO2
  generalize hK1 : nmF ⟨n, id, te, vo, lo, ro, co, vs, ns, hs⟩ = K1 at *
  generalize hK2 : lgF ⟨n, id, te, vo, lo, ro, co, vs, ns, hs⟩ = K2 at *
  generalize hV : votesB ⟨n, id, te, vo, lo, ro, co, vs, ns, hs⟩ = V at *
  generalize hW : knownB ⟨n, id, te, vo, lo, ro, co, vs, ns, hs⟩ = N at *
  obtain ⟨p, q⟩ := K1
  obtain ⟨r, s⟩ := K2
  unfold ndV ndA at HC1 HC2 HC3 HC4
  unfold ndV ndA
  clear h1 h2 h3 h4 hA hK1 hK2 hV hW HX hwf
  go_enter Try.func9, Try.ntmps9
  go_wp2_with (refine wpList_load_blk HB.out Try.underlying25 rfl Try.sizeNode rfl rfl rfl ?_)
  refine HC1.out.mono ?_
  rintro e w1 ⟨rfl, hb⟩
  have hN := below_allocG w1 (.cells #[.int .i64 p, .int .i64 q] 30)
  have hB := (HB.out.later hb).later hN
  have HB1 := hide hB
  have HR1 := hide ((HR.out.later hb).later hN)
  have hAA := HA.out.trans (hb.mono HA.out.size)
  have HA1 := hide (hAA.trans (hN.mono hAA.size))
  have cl := hB.lt
  simp at  cl
  clear hb hN hB hAA
  unfold flt
  by_cases hp : p ≠ 0
  · have HE := hide (HF.out.trans (if_pos hp))
    have hq : (p == 0) = false := beq_eq_false_iff_ne.2 hp
    have hq2 : (p != 0) = true := by simp [hp]
    clear hp
    go_wp2_with (refine wpList_store_blk rfl rfl rfl rfl HR1.out rfl Try.sizeFaultR rfl ?_; intro w9 hR9 hg9; have HR9 := hide hR9; have HG9 := hide hg9; clear hR9 hg9)
    refine bodyPost_ret (v := .agg #[.int .i64 p, .int .i64 q]) (results1_cell Try.results9 rfl (run_loadVar_blk HR9.out Try.underlying30 rfl Try.sizeFaultR)) rfl ?_
    exact ⟨by rw [HE.out] <;> rfl, below_grownO HA1.out HG9.out (fun k hk => by cases hk; omega) HA1.out.size⟩
  have HF1 := hide (HF.out.trans (if_neg hp))
  obtain rfl : p = 0 := Decidable.not_not.1 hp
  obtain rfl : q = 0 := by have := HZ1.out rfl; simpa using this
  clear hp
  have HN := hide (HO1.out rfl)
  go_wp2_with (refine wpList_load_blk HB1.out Try.underlying25 rfl Try.sizeNode rfl rfl rfl ?_)
  refine (HC2.out _ HA1.out).mono ?_
  rintro e w2 ⟨rfl, hb⟩
  have hN := below_allocG w2 (.cells #[.int .i64 r, .int .i64 s] 30)
  have hB := (HB1.out.later hb).later hN
  have HB2 := hide hB
  have HR2 := hide ((HR1.out.later hb).later hN)
  have hAA := HA1.out.trans (hb.mono HA1.out.size)
  have HA2 := hide (hAA.trans (hN.mono hAA.size))
  have cl := hB.lt
  simp at  cl
  clear hb hN hB hAA
  unfold flt
  by_cases hp : r ≠ 0
  · have HE := hide (HF1.out.trans (if_pos hp))
    have hq : (r == 0) = false := beq_eq_false_iff_ne.2 hp
    have hq2 : (r != 0) = true := by simp [hp]
    clear hp
    go_wp2_with (refine wpList_store_blk rfl rfl rfl rfl HR2.out rfl Try.sizeFaultR rfl ?_; intro w9 hR9 hg9; have HR9 := hide hR9; have HG9 := hide hg9; clear hR9 hg9)
    refine bodyPost_ret (v := .agg #[.int .i64 r, .int .i64 s]) (results1_cell Try.results9 rfl (run_loadVar_blk HR9.out Try.underlying30 rfl Try.sizeFaultR)) rfl ?_
    exact ⟨by rw [HE.out] <;> rfl, below_grownO HA2.out HG9.out (fun k hk => by cases hk; omega) HA2.out.size⟩
  have HF2 := hide (HF1.out.trans (if_neg hp))
  obtain rfl : r = 0 := Decidable.not_not.1 hp
  obtain rfl : s = 0 := by have := HZ2.out rfl; simpa using this
  clear hp
  have HL := hide (HO2.out rfl)
  have HC5 := hide (fun W (hW : Below w.heap.size w W) => HC3.out W hW HN.out.1 HN.out.2.1 HN.out.2.2.1 (by have := HN.out; omega))
  have HC6 := hide (fun W (hW : Below w.heap.size w W) => HC4.out W hW (by have := HL.out; omega))
  cases V
  · have HE := hide (HF2.out.trans (if_pos (.inl rfl)))
    go_wp2_with (first
      | (refine wpList_load_blk HB2.out Try.underlying25 rfl Try.sizeNode rfl rfl rfl ?_)
      | (go_at_call 28; refine (HC5.out _ HA2.out).mono ?_; rintro e w3 ⟨rfl, hb3⟩; have HR3 := hide (HR2.out.later hb3); have HA3 := hide (HA2.out.trans (hb3.mono HA2.out.size)); clear hb3)
      | (refine wpList_store_blk rfl rfl rfl rfl HR3.out rfl Try.sizeFaultR rfl ?_; intro w9 hR9 hg9; have HR9 := hide hR9; have HG9 := hide hg9; clear hR9 hg9))
    refine bodyPost_ret (v := .agg #[.int .i64 5, .int .i64 (-3)]) (results1_cell Try.results9 rfl (run_loadVar_blk HR9.out Try.underlying30 rfl Try.sizeFaultR)) rfl ?_
    exact ⟨by rw [HE.out] <;> rfl, below_grownO HA3.out HG9.out (fun k hk => by cases hk; omega) HA3.out.size⟩
  cases N
  all_goals
    first
      | have HE := hide (HF2.out.trans (if_pos (.inr rfl)))
      | have HE := hide (HF2.out.trans (if_neg (by simp)))
    go_wp2_with (first
      | (refine wpList_load_blk HB2.out Try.underlying25 rfl Try.sizeNode rfl rfl rfl ?_)
      | (go_at_call 28; refine (HC5.out _ HA2.out).mono ?_; rintro e w3 ⟨rfl, hb3⟩; have HB3 := hide (HB2.out.later hb3); have HR3 := hide (HR2.out.later hb3); have HA3 := hide (HA2.out.trans (hb3.mono HA2.out.size)); clear hb3)
      | (refine wpList_load_blkW HB3.out Try.underlying25 rfl Try.sizeNode rfl rfl rfl ?_)
      | (go_at_call 29; refine (HC6.out _ HA3.out).mono ?_; rintro e w4 ⟨rfl, hb4⟩; have HR4 := hide (HR3.out.later hb4); have HA4 := hide (HA3.out.trans (hb4.mono HA3.out.size)); clear hb4)
      | (refine wpList_store_blk rfl rfl rfl rfl HR4.out rfl Try.sizeFaultR rfl ?_; intro w9 hR9 hg9; have HR9 := hide hR9; have HG9 := hide hg9; clear hR9 hg9))
    refine bodyPost_ret (results1_cell Try.results9 rfl (run_loadVar_blk HR9.out Try.underlying30 rfl Try.sizeFaultR)) rfl ?_
    exact ⟨by rw [HE.out] <;> rfl, below_grownO HA4.out HG9.out (fun k hk => by cases hk; omega) HA4.out.size⟩

set_option maxRecDepth 100000 in
set_option maxHeartbeats 4000000 in
theorem leadFault_any (x : Nd) (lv vv nv hv : Value) (w : World) (hx : RdNd w x lv vv nv hv) (hwf : ∀ v ∈ x.votes, WfI v) :
    Calls Try.prog 36 #[ndV x lv vv nv hv] w fun e w' => e = .returned (flt (ledF x)) ∧ Below w.heap.size w w' := by
  have HX := hide hx
  obtain ⟨n, id, te, vo, lo, ro, co, vs, ns, hs⟩ := x
  obtain ⟨h1, h2, h3, h4⟩ := hx
  simp only at h1 h2 h3 h4
  obtain ⟨ao, cap, rfl, hc1, hc2⟩ := h1.shape
  obtain ⟨bo, cap2, rfl, hd1, hd2⟩ := h2.shape
  obtain ⟨no, cap3, rfl, _, _⟩ := h3.shape
  obtain ⟨ho, cap4, rfl, _, _⟩ := h4.shape
  have hA := below_alloc2 w (.cells #[.int .i64 n, .int .i64 id, .int .i64 te, .int .i64 vo, .slice ao lo.length cap, .int .i64 ro, .int .i64 co, .slice bo vs.length cap2, .slice no ns.length cap3, .slice ho hs.length cap4] 25) (.cells #[.int .i64 0, .int .i64 0] 30)
  have HB := hide (Blk.at0of2 w (.cells #[.int .i64 0, .int .i64 0] 30) 25 #[.int .i64 n, .int .i64 id, .int .i64 te, .int .i64 vo, .slice ao lo.length cap, .int .i64 ro, .int .i64 co, .slice bo vs.length cap2, .slice no ns.length cap3, .slice ho hs.length cap4])
  have HR := hide (Blk.at1 w (.cells #[.int .i64 n, .int .i64 id, .int .i64 te, .int .i64 vo, .slice ao lo.length cap, .int .i64 ro, .int .i64 co, .slice bo vs.length cap2, .slice no ns.length cap3, .slice ho hs.length cap4] 25) 30 #[.int .i64 0, .int .i64 0])
  have HA := hide hA
  have HF : Hid (ledF ⟨n, id, te, vo, lo, ro, co, vs, ns, hs⟩ = if (chkN ⟨n, id, te, vo, lo, ro, co, vs, ns, hs⟩).1 ≠ 0 then chkN ⟨n, id, te, vo, lo, ro, co, vs, ns, hs⟩ else if ro ≠ 2 then (11, 0) else (0, 0)) := hide rfl
  have HZ1 := hide (chkN_z ⟨n, id, te, vo, lo, ro, co, vs, ns, hs⟩)
  have HC1 := hide (RCheck_any ⟨n, id, te, vo, lo, ro, co, vs, ns, hs⟩ _ _ _ _ _ (HX.out.below hA) hwf)
  generalize hK1 : chkN ⟨n, id, te, vo, lo, ro, co, vs, ns, hs⟩ = K1 at *
  obtain ⟨p, q⟩ := K1
  unfold ndV ndA at HC1
  unfold ndV ndA
  clear h1 h2 h3 h4 hA hK1 HX hwf
  go_enter Try.func36, Try.ntmps36
  go_wp2_with (refine wpList_load_blk HB.out Try.underlying25 rfl Try.sizeNode rfl rfl rfl ?_)
  refine HC1.out.mono ?_
  rintro e w1 ⟨rfl, hb⟩
  have hN := below_allocG w1 (.cells #[.int .i64 p, .int .i64 q] 30)
  have hB := (HB.out.later hb).later hN
  have HB1 := hide hB
  have HR1 := hide ((HR.out.later hb).later hN)
  have hAA := HA.out.trans (hb.mono HA.out.size)
  have HA1 := hide (hAA.trans (hN.mono hAA.size))
  have cl := hB.lt
  have c2 := hB.cell 2
  have c4 := hB.cell 4
  have c5 := hB.cell 5
  simp at c2 c4 c5 cl
  clear hb hN hB hAA
  unfold flt
  by_cases hp : p ≠ 0
  · have HE := hide (HF.out.trans (if_pos hp))
    have hq : (p == 0) = false := beq_eq_false_iff_ne.2 hp
    have hq2 : (p != 0) = true := by simp [hp]
    clear hp
    go_wp2_with (refine wpList_store_blk rfl rfl rfl rfl HR1.out rfl Try.sizeFaultR rfl ?_; intro w9 hR9 hg9; have HR9 := hide hR9; have HG9 := hide hg9; clear hR9 hg9)
    refine bodyPost_ret (v := .agg #[.int .i64 p, .int .i64 q]) (results1_cell Try.results36 rfl (run_loadVar_blk HR9.out Try.underlying30 rfl Try.sizeFaultR)) rfl ?_
    exact ⟨by rw [HE.out] <;> rfl, below_grownO HA1.out HG9.out (fun k hk => by cases hk; omega) HA1.out.size⟩
  have HF1 := hide (HF.out.trans (if_neg hp))
  obtain rfl : p = 0 := Decidable.not_not.1 hp
  obtain rfl : q = 0 := by have := HZ1.out rfl; simpa using this
  clear hp
  by_cases hc : ro ≠ 2
  · have HE := hide (HF1.out.trans (if_pos hc))
    have e1 : (ro != 2) = true := by simp [hc]
    clear hc
    go_wp2_with (refine wpList_store_blk rfl rfl rfl rfl HR1.out rfl Try.sizeFaultR rfl ?_; intro w9 hR9 hg9; have HR9 := hide hR9; have HG9 := hide hg9; clear hR9 hg9)
    refine bodyPost_ret (v := .agg #[.int .i64 11, .int .i64 0]) (results1_cell Try.results36 rfl (run_loadVar_blk HR9.out Try.underlying30 rfl Try.sizeFaultR)) rfl ?_
    exact ⟨by rw [HE.out] <;> rfl, below_grownO HA1.out HG9.out (fun k hk => by cases hk; omega) HA1.out.size⟩
  have HG0 := hide (HF1.out.trans (if_neg hc))
  have e1 : (ro != 2) = false := by simp only [Decidable.not_not] at hc; simp [hc]
  clear hc
  have HE := hide HG0.out
  go_wp2_with (refine wpList_store_blk rfl rfl rfl rfl HR1.out rfl Try.sizeFaultR rfl ?_; intro w9 hR9 hg9; have HR9 := hide hR9; have HG9 := hide hg9; clear hR9 hg9)
  refine bodyPost_ret (v := .agg #[.int .i64 0, .int .i64 0]) (results1_cell Try.results36 rfl (run_loadVar_blk HR9.out Try.underlying30 rfl Try.sizeFaultR)) rfl ?_
  exact ⟨by rw [HE.out] <;> rfl, below_grownO HA1.out HG9.out (fun k hk => by cases hk; omega) HA1.out.size⟩

set_option maxRecDepth 100000 in
set_option maxHeartbeats 4000000 in
theorem standFault_any (x : Nd) (lv vv nv hv : Value) (w : World) (hx : RdNd w x lv vv nv hv) (hwf : ∀ v ∈ x.votes, WfI v) :
    Calls Try.prog 30 #[ndV x lv vv nv hv] w fun e w' => e = .returned (flt (stdF x)) ∧ Below w.heap.size w w' := by
  have HX := hide hx
  obtain ⟨n, id, te, vo, lo, ro, co, vs, ns, hs⟩ := x
  obtain ⟨h1, h2, h3, h4⟩ := hx
  simp only at h1 h2 h3 h4
  obtain ⟨ao, cap, rfl, hc1, hc2⟩ := h1.shape
  obtain ⟨bo, cap2, rfl, hd1, hd2⟩ := h2.shape
  obtain ⟨no, cap3, rfl, _, _⟩ := h3.shape
  obtain ⟨ho, cap4, rfl, _, _⟩ := h4.shape
  have hA := below_alloc2 w (.cells #[.int .i64 n, .int .i64 id, .int .i64 te, .int .i64 vo, .slice ao lo.length cap, .int .i64 ro, .int .i64 co, .slice bo vs.length cap2, .slice no ns.length cap3, .slice ho hs.length cap4] 25) (.cells #[.int .i64 0, .int .i64 0] 30)
  have HB := hide (Blk.at0of2 w (.cells #[.int .i64 0, .int .i64 0] 30) 25 #[.int .i64 n, .int .i64 id, .int .i64 te, .int .i64 vo, .slice ao lo.length cap, .int .i64 ro, .int .i64 co, .slice bo vs.length cap2, .slice no ns.length cap3, .slice ho hs.length cap4])
  have HR := hide (Blk.at1 w (.cells #[.int .i64 n, .int .i64 id, .int .i64 te, .int .i64 vo, .slice ao lo.length cap, .int .i64 ro, .int .i64 co, .slice bo vs.length cap2, .slice no ns.length cap3, .slice ho hs.length cap4] 25) 30 #[.int .i64 0, .int .i64 0])
  have HA := hide hA
  have HF : Hid (stdF ⟨n, id, te, vo, lo, ro, co, vs, ns, hs⟩ = if (chkN ⟨n, id, te, vo, lo, ro, co, vs, ns, hs⟩).1 ≠ 0 then chkN ⟨n, id, te, vo, lo, ro, co, vs, ns, hs⟩ else if ro = 2 then (11, 0) else if te = 1000000000 then (9, 0) else (0, 0)) := hide rfl
  have HZ1 := hide (chkN_z ⟨n, id, te, vo, lo, ro, co, vs, ns, hs⟩)
  have HC1 := hide (RCheck_any ⟨n, id, te, vo, lo, ro, co, vs, ns, hs⟩ _ _ _ _ _ (HX.out.below hA) hwf)
  generalize hK1 : chkN ⟨n, id, te, vo, lo, ro, co, vs, ns, hs⟩ = K1 at *
  obtain ⟨p, q⟩ := K1
  unfold ndV ndA at HC1
  unfold ndV ndA
  clear h1 h2 h3 h4 hA hK1 HX hwf
  go_enter Try.func30, Try.ntmps30
  go_wp2_with (refine wpList_load_blk HB.out Try.underlying25 rfl Try.sizeNode rfl rfl rfl ?_)
  refine HC1.out.mono ?_
  rintro e w1 ⟨rfl, hb⟩
  have hN := below_allocG w1 (.cells #[.int .i64 p, .int .i64 q] 30)
  have hB := (HB.out.later hb).later hN
  have HB1 := hide hB
  have HR1 := hide ((HR.out.later hb).later hN)
  have hAA := HA.out.trans (hb.mono HA.out.size)
  have HA1 := hide (hAA.trans (hN.mono hAA.size))
  have cl := hB.lt
  have c2 := hB.cell 2
  have c4 := hB.cell 4
  have c5 := hB.cell 5
  simp at c2 c4 c5 cl
  clear hb hN hB hAA
  unfold flt
  by_cases hp : p ≠ 0
  · have HE := hide (HF.out.trans (if_pos hp))
    have hq : (p == 0) = false := beq_eq_false_iff_ne.2 hp
    have hq2 : (p != 0) = true := by simp [hp]
    clear hp
    go_wp2_with (refine wpList_store_blk rfl rfl rfl rfl HR1.out rfl Try.sizeFaultR rfl ?_; intro w9 hR9 hg9; have HR9 := hide hR9; have HG9 := hide hg9; clear hR9 hg9)
    refine bodyPost_ret (v := .agg #[.int .i64 p, .int .i64 q]) (results1_cell Try.results30 rfl (run_loadVar_blk HR9.out Try.underlying30 rfl Try.sizeFaultR)) rfl ?_
    exact ⟨by rw [HE.out] <;> rfl, below_grownO HA1.out HG9.out (fun k hk => by cases hk; omega) HA1.out.size⟩
  have HF1 := hide (HF.out.trans (if_neg hp))
  obtain rfl : p = 0 := Decidable.not_not.1 hp
  obtain rfl : q = 0 := by have := HZ1.out rfl; simpa using this
  clear hp
  by_cases hc : ro = 2
  · have HE := hide (HF1.out.trans (if_pos hc))
    have e1 : (ro == 2) = true := by simp [hc]
    clear hc
    go_wp2_with (refine wpList_store_blk rfl rfl rfl rfl HR1.out rfl Try.sizeFaultR rfl ?_; intro w9 hR9 hg9; have HR9 := hide hR9; have HG9 := hide hg9; clear hR9 hg9)
    refine bodyPost_ret (v := .agg #[.int .i64 11, .int .i64 0]) (results1_cell Try.results30 rfl (run_loadVar_blk HR9.out Try.underlying30 rfl Try.sizeFaultR)) rfl ?_
    exact ⟨by rw [HE.out] <;> rfl, below_grownO HA1.out HG9.out (fun k hk => by cases hk; omega) HA1.out.size⟩
  have HG0 := hide (HF1.out.trans (if_neg hc))
  have e1 : (ro == 2) = false := by simp [hc]
  clear hc
  by_cases hc : te = 1000000000
  · have HE := hide (HG0.out.trans (if_pos hc))
    have e2 : (te == 1000000000) = true := by simp [hc]
    clear hc
    go_wp2_with (refine wpList_store_blk rfl rfl rfl rfl HR1.out rfl Try.sizeFaultR rfl ?_; intro w9 hR9 hg9; have HR9 := hide hR9; have HG9 := hide hg9; clear hR9 hg9)
    refine bodyPost_ret (v := .agg #[.int .i64 9, .int .i64 0]) (results1_cell Try.results30 rfl (run_loadVar_blk HR9.out Try.underlying30 rfl Try.sizeFaultR)) rfl ?_
    exact ⟨by rw [HE.out] <;> rfl, below_grownO HA1.out HG9.out (fun k hk => by cases hk; omega) HA1.out.size⟩
  have HG1 := hide (HG0.out.trans (if_neg hc))
  have e2 : (te == 1000000000) = false := by simp [hc]
  clear hc
  have HE := hide HG1.out
  go_wp2_with (refine wpList_store_blk rfl rfl rfl rfl HR1.out rfl Try.sizeFaultR rfl ?_; intro w9 hR9 hg9; have HR9 := hide hR9; have HG9 := hide hg9; clear hR9 hg9)
  refine bodyPost_ret (v := .agg #[.int .i64 0, .int .i64 0]) (results1_cell Try.results30 rfl (run_loadVar_blk HR9.out Try.underlying30 rfl Try.sizeFaultR)) rfl ?_
  exact ⟨by rw [HE.out] <;> rfl, below_grownO HA1.out HG9.out (fun k hk => by cases hk; omega) HA1.out.size⟩

set_option maxRecDepth 100000 in
set_option maxHeartbeats 4000000 in
theorem proposeFault_any (x : Nd) (lv vv nv hv : Value) (tx : ByteArray) (w : World) (hx : RdNd w x lv vv nv hv) (hwf : ∀ v ∈ x.votes, WfI v) :
    Calls Try.prog 34 #[ndV x lv vv nv hv, .string tx] w fun e w' => e = .returned (flt (proF x tx)) ∧ Below w.heap.size w w' := by
  have HX := hide hx
  obtain ⟨n, id, te, vo, lo, ro, co, vs, ns, hs⟩ := x
  obtain ⟨h1, h2, h3, h4⟩ := hx
  simp only at h1 h2 h3 h4
  obtain ⟨ao, cap, rfl, hc1, hc2⟩ := h1.shape
  obtain ⟨bo, cap2, rfl, hd1, hd2⟩ := h2.shape
  obtain ⟨no, cap3, rfl, _, _⟩ := h3.shape
  obtain ⟨ho, cap4, rfl, _, _⟩ := h4.shape
  have hA := below_alloc2 w (.cells #[.int .i64 n, .int .i64 id, .int .i64 te, .int .i64 vo, .slice ao lo.length cap, .int .i64 ro, .int .i64 co, .slice bo vs.length cap2, .slice no ns.length cap3, .slice ho hs.length cap4] 25) (.cells #[.int .i64 0, .int .i64 0] 30)
  have HB := hide (Blk.at0of2 w (.cells #[.int .i64 0, .int .i64 0] 30) 25 #[.int .i64 n, .int .i64 id, .int .i64 te, .int .i64 vo, .slice ao lo.length cap, .int .i64 ro, .int .i64 co, .slice bo vs.length cap2, .slice no ns.length cap3, .slice ho hs.length cap4])
  have HR := hide (Blk.at1 w (.cells #[.int .i64 n, .int .i64 id, .int .i64 te, .int .i64 vo, .slice ao lo.length cap, .int .i64 ro, .int .i64 co, .slice bo vs.length cap2, .slice no ns.length cap3, .slice ho hs.length cap4] 25) 30 #[.int .i64 0, .int .i64 0])
  have HA := hide hA
  have HF : Hid (proF ⟨n, id, te, vo, lo, ro, co, vs, ns, hs⟩ tx = if (ledF ⟨n, id, te, vo, lo, ro, co, vs, ns, hs⟩).1 ≠ 0 then ledF ⟨n, id, te, vo, lo, ro, co, vs, ns, hs⟩ else if 200 < tx.size then (8, 0) else if lo.length = 100 then (2, 0) else (0, 0)) := hide rfl
  have HZ1 := hide (ledF_z ⟨n, id, te, vo, lo, ro, co, vs, ns, hs⟩)
  have HC1 := hide (leadFault_any ⟨n, id, te, vo, lo, ro, co, vs, ns, hs⟩ _ _ _ _ _ (HX.out.below hA) hwf)
  generalize hK1 : ledF ⟨n, id, te, vo, lo, ro, co, vs, ns, hs⟩ = K1 at *
  obtain ⟨p, q⟩ := K1
  unfold ndV ndA at HC1
  unfold ndV ndA
  clear h1 h2 h3 h4 hA hK1 HX hwf
  go_enter Try.func34, Try.ntmps34
  go_wp2_with (refine wpList_load_blk HB.out Try.underlying25 rfl Try.sizeNode rfl rfl rfl ?_)
  refine HC1.out.mono ?_
  rintro e w1 ⟨rfl, hb⟩
  have hN := below_allocG w1 (.cells #[.int .i64 p, .int .i64 q] 30)
  have hB := (HB.out.later hb).later hN
  have HB1 := hide hB
  have HR1 := hide ((HR.out.later hb).later hN)
  have hAA := HA.out.trans (hb.mono HA.out.size)
  have HA1 := hide (hAA.trans (hN.mono hAA.size))
  have cl := hB.lt
  have c2 := hB.cell 2
  have c4 := hB.cell 4
  have c5 := hB.cell 5
  simp at c2 c4 c5 cl
  clear hb hN hB hAA
  unfold flt
  by_cases hp : p ≠ 0
  · have HE := hide (HF.out.trans (if_pos hp))
    have hq : (p == 0) = false := beq_eq_false_iff_ne.2 hp
    have hq2 : (p != 0) = true := by simp [hp]
    clear hp
    go_wp2_with (refine wpList_store_blk rfl rfl rfl rfl HR1.out rfl Try.sizeFaultR rfl ?_; intro w9 hR9 hg9; have HR9 := hide hR9; have HG9 := hide hg9; clear hR9 hg9)
    refine bodyPost_ret (v := .agg #[.int .i64 p, .int .i64 q]) (results1_cell Try.results34 rfl (run_loadVar_blk HR9.out Try.underlying30 rfl Try.sizeFaultR)) rfl ?_
    exact ⟨by rw [HE.out] <;> rfl, below_grownO HA1.out HG9.out (fun k hk => by cases hk; omega) HA1.out.size⟩
  have HF1 := hide (HF.out.trans (if_neg hp))
  obtain rfl : p = 0 := Decidable.not_not.1 hp
  obtain rfl : q = 0 := by have := HZ1.out rfl; simpa using this
  clear hp
  by_cases hc : 200 < tx.size
  · have HE := hide (HF1.out.trans (if_pos hc))
    have e1 : decide (200 < (tx.size : Int)) = true := decide_eq_true (by omega)
    clear hc
    go_wp2_with (refine wpList_store_blk rfl rfl rfl rfl HR1.out rfl Try.sizeFaultR rfl ?_; intro w9 hR9 hg9; have HR9 := hide hR9; have HG9 := hide hg9; clear hR9 hg9)
    refine bodyPost_ret (v := .agg #[.int .i64 8, .int .i64 0]) (results1_cell Try.results34 rfl (run_loadVar_blk HR9.out Try.underlying30 rfl Try.sizeFaultR)) rfl ?_
    exact ⟨by rw [HE.out] <;> rfl, below_grownO HA1.out HG9.out (fun k hk => by cases hk; omega) HA1.out.size⟩
  have HG0 := hide (HF1.out.trans (if_neg hc))
  have e1 : decide (200 < (tx.size : Int)) = false := decide_eq_false (by omega)
  clear hc
  by_cases hc : lo.length = 100
  · have HE := hide (HG0.out.trans (if_pos hc))
    have e2 : ((lo.length : Int) == 100) = true := by simp; omega
    clear hc
    go_wp2_with (refine wpList_store_blk rfl rfl rfl rfl HR1.out rfl Try.sizeFaultR rfl ?_; intro w9 hR9 hg9; have HR9 := hide hR9; have HG9 := hide hg9; clear hR9 hg9)
    refine bodyPost_ret (v := .agg #[.int .i64 2, .int .i64 0]) (results1_cell Try.results34 rfl (run_loadVar_blk HR9.out Try.underlying30 rfl Try.sizeFaultR)) rfl ?_
    exact ⟨by rw [HE.out] <;> rfl, below_grownO HA1.out HG9.out (fun k hk => by cases hk; omega) HA1.out.size⟩
  have HG1 := hide (HG0.out.trans (if_neg hc))
  have e2 : ((lo.length : Int) == 100) = false := beq_eq_false_iff_ne.2 (by omega)
  clear hc
  have HE := hide HG1.out
  go_wp2_with (refine wpList_store_blk rfl rfl rfl rfl HR1.out rfl Try.sizeFaultR rfl ?_; intro w9 hR9 hg9; have HR9 := hide hR9; have HG9 := hide hg9; clear hR9 hg9)
  refine bodyPost_ret (v := .agg #[.int .i64 0, .int .i64 0]) (results1_cell Try.results34 rfl (run_loadVar_blk HR9.out Try.underlying30 rfl Try.sizeFaultR)) rfl ?_
  exact ⟨by rw [HE.out] <;> rfl, below_grownO HA1.out HG9.out (fun k hk => by cases hk; omega) HA1.out.size⟩

end Go.Proofs.Ytbffmdhogehfnaa

/-
  A node in memory; the walks over its follow, having and count.
-/
namespace Go.Proofs.Ytbffmdhogehfnaa
open Go.RowKit Go.Maps
set_option linter.unusedVariables false

theorem Try.sizeIntR : (Try.prog.info? 3).map (·.size) = some 1 := by kernel_rfl

theorem Try.sizeIntsR : (Try.prog.info? 23).map (·.size) = some 1 := by kernel_rfl

theorem Try.sizeEntsR : (Try.prog.info? 22).map (·.size) = some 1 := by kernel_rfl

theorem Try.sizeNodeR : (Try.prog.info? 52).map (·.size) = some 10 := by kernel_rfl

/-- A node in memory, with rows of its own. -/
structure Nm (w : World) (lab : Nat → Nat) (B : Nat) (x : Nd) (lv vv nv hv : Value) : Prop where
  blk : Blk w B 52 (ndA x lv vv nv hv)
  lb : lab B = 5
  log : Row w lab 1 65 2 lv x.log.length (eE.vs x.log)
  vot : Row w lab 2 3 1 vv x.votes.length (iE.vs x.votes)
  nxt : Row w lab 3 3 1 nv x.next.length (iE.vs x.next)
  hav : Row w lab 4 3 1 hv x.hav.length (iE.vs x.hav)
  ok : LbOk 0 w lab

/-- A node in memory that is read. -/
structure Nr (w : World) (B : Nat) (x : Nd) (lv vv nv hv : Value) : Prop where
  blk : Blk w B 52 (ndA x lv vv nv hv)
  rd : RdNd w x lv vv nv hv

theorem Nm.nr {w : World} {lab : Nat → Nat} {B : Nat} {x : Nd} {lv vv nv hv : Value} (h : Nm w lab B x lv vv nv hv) : Nr w B x lv vv nv hv :=
  ⟨h.blk, RdG.ofOwns h.log.1, RdG.ofOwns h.vot.1, RdG.ofOwns h.nxt.1, RdG.ofOwns h.hav.1⟩

theorem Nr.below {w w' : World} {B : Nat} {x : Nd} {lv vv nv hv : Value} (h : Nr w B x lv vv nv hv) (hb : Below w.heap.size w w') : Nr w' B x lv vv nv hv :=
  ⟨h.blk.later hb, h.rd.below hb⟩

theorem Nm.below {w w' : World} {lab : Nat → Nat} {B : Nat} {x : Nd} {lv vv nv hv : Value} (h : Nm w lab B x lv vv nv hv) (hb : Below w.heap.size w w') : Nm w' lab B x lv vv nv hv := by
  have hc : Chg 0 w w' lab lab (fun _ => False) := Chg.below _ h.ok hb
  exact ⟨h.blk.later hb, h.lb, h.log.keep hc (fun q => q), h.vot.keep hc (fun q => q), h.nxt.keep hc (fun q => q), h.hav.keep hc (fun q => q), hc.ok⟩

/-- A node, while its blocks stay. -/
theorem Nm.keep {w w' : World} {lab lab' : Nat → Nat} {S : Nat → Prop} {B : Nat} {x : Nd} {lv vv nv hv : Value} (h : Nm w lab B x lv vv nv hv) (hc : Chg 0 w w' lab lab' S) (hS : ∀ i, 1 ≤ i → i ≤ 5 → ¬ S i) : Nm w' lab' B x lv vv nv hv :=
  ⟨h.blk.keep hc (by rw [h.lb]; exact hS 5 (by omega) (by omega)), (hc.labs B h.blk.lt).trans h.lb, h.log.keep hc (hS 1 (by omega) (by omega)), h.vot.keep hc (hS 2 (by omega) (by omega)), h.nxt.keep hc (hS 3 (by omega) (by omega)), h.hav.keep hc (hS 4 (by omega) (by omega)), hc.ok⟩

theorem Row.nilR {w : World} {lab : Nat → Nat} {i : Nat} {e : TypeId} {K : Nat} : Row w lab i e K (.slice none 0 0) 0 [] :=
  ⟨⟨by simp, .inl ⟨rfl, rfl⟩⟩, fun g hg => by simp [Value.ownBlock] at hg⟩

/-- The block alone is written: what it tells then. -/
theorem Nm.wrote {w w' : World} {lab : Nat → Nat} {B : Nat} {x y : Nd} {lv vv nv hv vv' nv' hv' : Value} (h : Nm w lab B x lv vv nv hv) (hg : w.grownBy w' (some B)) (hB : Blk w' B 52 (ndA y lv vv' nv' hv')) (hl : y.log = x.log)
    (hv2 : (vv' = vv ∧ y.votes = x.votes) ∨ (vv' = .slice none 0 0 ∧ y.votes = [])) (hn2 : (nv' = nv ∧ y.next = x.next) ∨ (nv' = .slice none 0 0 ∧ y.next = [])) (hh2 : (hv' = hv ∧ y.hav = x.hav) ∨ (hv' = .slice none 0 0 ∧ y.hav = [])) :
    Nm w' lab B y lv vv' nv' hv' ∧ Chg 0 w w' lab lab (fun i => i = 5) := by
  have hc : Chg 0 w w' lab lab (fun i => i = 5) := Chg.grown h.ok hg h.lb
  refine ⟨⟨hB, h.lb, by rw [hl]; exact h.log.keep hc (by omega), ?_, ?_, ?_, hc.ok⟩, hc⟩
  · rcases hv2 with ⟨rfl, e⟩ | ⟨rfl, e⟩ <;> rw [e]
    · exact h.vot.keep hc (by omega)
    · exact Row.nilR
  · rcases hn2 with ⟨rfl, e⟩ | ⟨rfl, e⟩ <;> rw [e]
    · exact h.nxt.keep hc (by omega)
    · exact Row.nilR
  · rcases hh2 with ⟨rfl, e⟩ | ⟨rfl, e⟩ <;> rw [e]
    · exact h.hav.keep hc (by omega)
    · exact Row.nilR

theorem grown_same {w w2 w3 : World} {B : Nat} (h : w.grownBy w2 (some B)) (hg : w2.grownBy w3 (some B)) : w.grownBy w3 (some B) := grown_more h hg (.inr rfl)

set_option maxRecDepth 100000 in
set_option maxHeartbeats 2000000 in
theorem follow_any (B : Nat) (x : Nd) (lv vv nv hv : Value) (lab : Nat → Nat) (w : World) (hm : Nm w lab B x lv vv nv hv) :
    Calls Try.prog 38 #[.pointer (some ⟨B, 0, none⟩)] w fun e w' => e = .returned (.tuple #[]) ∧ Nm w' lab B x.follow lv (.slice none 0 0) (.slice none 0 0) (.slice none 0 0) ∧ Chg 0 w w' lab lab (fun i => i = 5) := by
  have HM := hide hm
  have HB := hide hm.blk
  unfold ndA at HB
  clear hm
  go_enter Try.func38, Try.ntmps38
  go_wp2_with (first
    | (refine wpList_store_int (k := 5) rfl rfl rfl rfl HB.out rfl Try.sizeIntR ?_; intro w1 hB1 hg1; have HB1 := hide hB1; have HG1 := hide hg1; clear hB1 hg1)
    | (refine wpList_store_slice (k := 7) rfl rfl rfl rfl HB1.out rfl Try.sizeIntsR ?_; intro w2 hB2 hg2; have HB2 := hide hB2; have HG2 := hide (grown_same HG1.out hg2); clear hB2 hg2)
    | (refine wpList_store_slice (k := 8) rfl rfl rfl rfl HB2.out rfl Try.sizeIntsR ?_; intro w3 hB3 hg3; have HB3 := hide hB3; have HG3 := hide (grown_same HG2.out hg3); clear hB3 hg3)
    | (refine wpList_store_slice (k := 9) rfl rfl rfl rfl HB3.out rfl Try.sizeIntsR ?_; intro w4 hB4 hg4; have HB4 := hide hB4; have HG4 := hide (grown_same HG3.out hg4); clear hB4 hg4))
  refine bodyPost_end (v := .tuple #[]) ?_ rfl ?_
  · simp [results, Try.results38]
  · exact ⟨rfl, HM.out.wrote (y := x.follow) HG4.out HB4.out rfl (.inr ⟨rfl, rfl⟩) (.inr ⟨rfl, rfl⟩) (.inr ⟨rfl, rfl⟩)⟩

set_option maxRecDepth 100000 in
set_option maxHeartbeats 2000000 in
theorem having_any (B : Nat) (x : Nd) (lv vv nv hv : Value) (p : Int) (w : World) (hm : Nr w B x lv vv nv hv) (hl : x.hav.length ≤ 1000) :
    Calls Try.prog 86 #[.pointer (some ⟨B, 0, none⟩), .int .i64 p] w fun e w' => e = .returned (.int .i64 (havN x.hav p)) ∧ w' = w := by
  have HV := hide hm.rd.hav
  obtain ⟨ao, cap, rfl, hc1, hc2⟩ := hm.rd.hav.shape
  have c9 := hm.blk.cell 9
  have bl := hm.blk.lt
  simp [ndA] at c9
  obtain ⟨l, hl'⟩ : ∃ l, l = x.hav := ⟨_, rfl⟩
  rw [← hl'] at HV hl hc1 c9 ⊢
  clear hm hl'
  go_enter Try.func86, Try.ntmps86
  go_wp2_with fail
  go_loopw [5, 14] (fun mv iv wr => ∃ (j : Nat), j ≤ l.length ∧ mv = .int .i64 (havN (l.take j) p) ∧ iv = .int .i64 j ∧ w = wr)
    (fun _ iv _ => l.length - (intOf iv).toNat)
  case atStart => exact ⟨0, by omega, rfl, rfl, rfl⟩
  case round =>
    obtain ⟨j, hj, rfl, rfl, rfl⟩ := hrel
    by_cases hlt : j < l.length
    · obtain ⟨y, hy⟩ : ∃ c, l[j]? = some c := ⟨_, List.getElem?_eq_getElem hlt⟩
      obtain ⟨b, off, rfl, hb, q⟩ := HV.out.hereI hy
      have hk1 : (0 : Int) ≤ (j : Int) := by omega
      have hk2 : (j : Int) < (l.length : Int) := by omega
      have HT := hide (show l.take (j + 1) = l.take j ++ [y] by rw [List.take_add_one, hy]; rfl)
      have hle : havN (l.take j) p ≤ j := by
        unfold havN
        exact Nat.le_trans List.countP_le_length (by simp; omega)
      have HN : Hid (havN (l.take (j + 1)) p = havN (l.take j) p + if p ≤ y then 1 else 0) := hide (by
        rw [HT.out]; unfold havN; rw [List.countP_append]; simp [List.countP_cons])
      generalize havN (l.take j) p = K at *
      clear hy
      by_cases hp : p ≤ y
      · have HN2 := hide (HN.out.trans (by rw [if_pos hp]))
        go_wp2_with fail
        go_roundw
        case rel => exact ⟨j + 1, by omega, by rw [HN2.out]; go_num, by go_num, trivial⟩
        case measure => simp [intOf]; omega
      · have HN2 := hide (HN.out.trans (by rw [if_neg hp]))
        go_wp2_with fail
        go_roundw
        case rel => exact ⟨j + 1, by omega, by rw [HN2.out]; rfl, by go_num, trivial⟩
        case measure => simp [intOf]; omega
    · have hje : j = l.length := by omega
      subst hje
      rw [List.take_length]
      go_wp2_with fail
      go_ret
      exact ⟨rfl, rfl⟩

end Go.Proofs.Ytbffmdhogehfnaa

/-
  The walk over a node's count.
-/
namespace Go.Proofs.Ytbffmdhogehfnaa
open Go.RowKit Go.Maps
set_option linter.unusedVariables false

theorem Nr.drewN {w : World} {B : Nat} {x : Nd} {lv vv nv hv : Value} (h : Nr w B x lv vv nv hv) (m : Nat) : Nr (w.drewN m) B x lv vv nv hv :=
  ⟨h.blk, h.rd.log.drewN m, h.rd.votes.drewN m, h.rd.next.drewN m, h.rd.hav.drewN m⟩

theorem coGo_le {x : Nd} : ∀ {k : Nat}, (k : Int) ≤ x.com → coGo x k = x.com
  | 0, _ => rfl
  | k + 1, h => by rw [coGo, if_pos h]

theorem coGo_yes {x : Nd} {k : Nat} (h : x.com < ((k + 1 : Nat) : Int)) (h1 : termP x.log (k + 1) = x.term) (h2 : mostB (havN x.hav ((k + 1 : Nat) : Int)) x.n = true) : coGo x (k + 1) = ((k + 1 : Nat) : Int) := by
  rw [coGo, if_neg (by omega), if_pos ⟨h1, h2⟩]

theorem coGo_no {x : Nd} {k : Nat} (h : x.com < ((k + 1 : Nat) : Int)) (h1 : ¬ (termP x.log (k + 1) = x.term ∧ mostB (havN x.hav ((k + 1 : Nat) : Int)) x.n = true)) : coGo x (k + 1) = coGo x k := by
  rw [coGo, if_neg (by omega), if_neg h1]

set_option maxRecDepth 100000 in
set_option maxHeartbeats 4000000 in
theorem count_any (B : Nat) (x : Nd) (lv vv nv hv : Value) (lab : Nat → Nat) (w : World) (hm : Nm w lab B x lv vv nv hv) (hn0 : 0 ≤ x.n) (hn7 : x.n ≤ 1000) (hll : x.log.length ≤ 1000) (hhl : x.hav.length ≤ 1000) (hc0 : 0 ≤ x.com) :
    Calls Try.prog 67 #[.pointer (some ⟨B, 0, none⟩)] w fun e w' => e = .returned (.tuple #[]) ∧ Nm w' lab B x.count lv vv nv hv ∧ Chg 0 w w' lab lab (fun i => i = 5) := by
  have HM := hide hm
  have hnr := hm.nr
  have HNR := hide hnr
  obtain ⟨ao, cap, rfl, hc1, hc2⟩ := hnr.rd.log.shape
  have c0 := hm.blk.cell 0
  have c2 := hm.blk.cell 2
  have c4 := hm.blk.cell 4
  have c6 := hm.blk.cell 6
  have bl := hm.blk.lt
  simp [ndA] at c0 c2 c4 c6
  have HC0 := hide c0
  have HC2 := hide c2
  have HC4 := hide c4
  have HC6 := hide c6
  have HCN : Hid (x.count = { x with com := coGo x x.log.length }) := hide rfl
  clear hm hnr c0 c2 c6
  go_enter Try.func67, Try.ntmps67
  go_wp2_with fail
  go_loopw [2] (fun pv wr => ∃ k : Nat, k ≤ x.log.length ∧ pv = .int .i64 k ∧ coGo x k = coGo x x.log.length ∧ Below w.heap.size w wr)
    (fun pv _ => (intOf pv).toNat)
  case atStart => exact ⟨x.log.length, Nat.le_refl _, rfl, rfl, Below.refl _ _⟩
  case round =>
    obtain ⟨k, hk, rfl, hgo, hbr⟩ := hrel
    have HBR := hide hbr
    have HGO := hide hgo
    have d0 := cell_belowG HC0.out hbr
    have d2 := cell_belowG HC2.out hbr
    have d4 := cell_belowG HC4.out hbr
    have d6 := cell_belowG HC6.out hbr
    have bl2 : B < wr.heap.size := Nat.lt_of_lt_of_le bl hbr.size
    have HNR2 := hide (HNR.out.below hbr)
    clear hgo hbr c4
    by_cases hle : (k : Int) ≤ x.com
    · have HE := hide (HGO.out.symm.trans (coGo_le hle))
      have hd : decide (x.com < (k : Int)) = false := decide_eq_false (by omega)
      have HX := hide (show x.count = x by rw [HCN.out, HE.out])
      go_wp2_with fail
      refine bodyPost_end (v := .tuple #[]) (by simp [results, Try.results67]) rfl ?_
      rw [HX.out]
      exact ⟨rfl, HM.out.below HBR.out, (Chg.below _ HM.out.ok HBR.out)⟩
    · obtain ⟨j, rfl⟩ : ∃ j, k = j + 1 := ⟨k - 1, by omega⟩
      have hd : decide (x.com < ((j + 1 : Nat) : Int)) = true := decide_eq_true (by omega)
      have HLT := hide (show x.com < ((j + 1 : Nat) : Int) by omega)
      have hw1 : IntKind.i64.wrap (((j + 1 : Nat) : Int) - 1) = (j : Int) := by rw [IntKind.wrap_i64]; omega
      have HT := hide (fun m => termAt_any _ x.log (j + 1) ((j + 1 : Nat) : Int) (wr.drewN m) (HNR2.out.rd.log.drewN m) rfl hk)
      have HH := hide (fun m => having_any B x _ _ _ _ ((j + 1 : Nat) : Int) (wr.drewN m) (HNR2.out.drewN m) hhl)
      have HMO := hide (fun m => areMost_any (havN x.hav ((j + 1 : Nat) : Int)) x.n (wr.drewN m) hn0 hn7)
      have HY := hide (@coGo_yes x j HLT.out)
      have HN := hide (@coGo_no x j HLT.out)
      generalize hT : termP x.log (j + 1) = T at *
      generalize hK : havN x.hav ((j + 1 : Nat) : Int) = K at *
      generalize hP : ((j + 1 : Nat) : Int) = P at *
      have hPj : P = (j : Int) + 1 := by omega
      have HPJ := hide hPj
      clear hT hK hP hle hPj
      by_cases ht : T = x.term
      · have ht2 : (T == x.term) = true := beq_iff_eq.2 ht
        cases hmo : mostB K x.n
        · have HG2 := hide (HGO.out.symm.trans (HN.out (by rw [hmo]; simp)))
          have HMF := hide hmo
          clear ht hmo
          go_wp2_with fail
          go_quiet (first
            | (go_at_call 69; exact Calls.quiet_of_same (HT.out _))
            | (go_at_call 86; exact Calls.quiet_of_same (HH.out _))
            | (go_at_call 86; exact quiet_addG ((HH.out _).mono fun _ _ ⟨h, h'⟩ => ⟨h, 0, h'⟩))
            | (go_at_call 60; exact Calls.quiet_of_same (HMO.out _))
            | (go_at_call 60; exact quiet_addG ((HMO.out _).mono fun _ _ ⟨h, h'⟩ => ⟨h, 0, h'⟩)))
          rw [HMF.out]
          go_wp2_with fail
          go_roundw
          case rel => exact ⟨j, by omega, by go_num, HG2.out.symm, below_drewN HBR.out _⟩
          case measure => simp [intOf]; have := HPJ.out; omega
        · have HG2 := hide (HGO.out.symm.trans (HY.out ht hmo))
          have HMF := hide hmo
          have HB := hide (HM.out.blk.later HBR.out)
          unfold ndA at HB
          clear ht hmo
          go_wp2_with fail
          go_quiet (first
            | (go_at_call 69; exact Calls.quiet_of_same (HT.out _))
            | (go_at_call 86; exact Calls.quiet_of_same (HH.out _))
            | (go_at_call 86; exact quiet_addG ((HH.out _).mono fun _ _ ⟨h, h'⟩ => ⟨h, 0, h'⟩))
            | (go_at_call 60; exact Calls.quiet_of_same (HMO.out _))
            | (go_at_call 60; exact quiet_addG ((HMO.out _).mono fun _ _ ⟨h, h'⟩ => ⟨h, 0, h'⟩)))
          rw [HMF.out]
          go_wp2_with (refine wpList_store_int (k := 6) rfl rfl rfl rfl HB.out rfl Try.sizeIntR ?_; intro w9 hB9 hg9; have HB9 := hide hB9; have HG9 := hide hg9; clear hB9 hg9)
          refine bodyPost_ret (v := .tuple #[]) (by simp [results, Try.results67]) rfl ?_
          rw [HCN.out, HG2.out]
          exact ⟨rfl, HM.out.wrote (y := { x with com := P }) (grown_via (below_drewN HBR.out _) HG9.out) HB9.out rfl (.inl ⟨rfl, rfl⟩) (.inl ⟨rfl, rfl⟩) (.inl ⟨rfl, rfl⟩)⟩
      · have ht2 : (T == x.term) = false := beq_eq_false_iff_ne.2 ht
        have HG2 := hide (HGO.out.symm.trans (HN.out (fun q => ht q.1)))
        clear ht
        go_wp2_with fail
        go_quiet (first
          | (go_at_call 69; exact Calls.quiet_of_same (HT.out _)))
        go_wp2_with fail
        go_roundw
        case rel => exact ⟨j, by omega, by go_num, HG2.out.symm, below_drewN HBR.out _⟩
        case measure => simp [intOf]; have := HPJ.out; omega

end Go.Proofs.Ytbffmdhogehfnaa

/-
  The walk over slices.Repeat of one number.
-/
namespace Go.Proofs.Ytbffmdhogehfnaa
open Go.RowKit Go.Maps
set_option linter.unusedVariables false

set_option maxRecDepth 100000 in
set_option maxHeartbeats 2000000 in
theorem Mul64_any (n : Int) (w : World) (h1 : 1 ≤ n) (h7 : n ≤ 7) : Calls Try.prog 107 #[.int .u64 1, .int .u64 n] w fun e w' => e = .returned (.tuple #[.int .u64 0, .int .u64 n]) ∧ w' = w := by
  have hn : n = 1 ∨ n = 2 ∨ n = 3 ∨ n = 4 ∨ n = 5 ∨ n = 6 ∨ n = 7 := by omega
  rcases hn with rfl | rfl | rfl | rfl | rfl | rfl | rfl
  all_goals
    go_enter Try.func107, Try.ntmps107
    go_wp2_with fail
    refine bodyPost_ret (by simp [results, Try.results107] <;> rfl) rfl ?_
    exact ⟨rfl, rfl⟩

set_option maxRecDepth 100000 in
set_option maxHeartbeats 2000000 in
theorem Mul_any (n : Int) (w : World) (h1 : 1 ≤ n) (h7 : n ≤ 7) : Calls Try.prog 100 #[.int .u64 1, .int .u64 n] w fun e w' => e = .returned (.tuple #[.int .u64 0, .int .u64 n]) ∧ w' = w := by
  go_enter Try.func100, Try.ntmps100
  go_wp2_with (go_at_call 107; refine (Mul64_any n _ h1 h7).mono ?_; rintro e w1 ⟨rfl, rfl⟩)
  refine bodyPost_ret (by simp [results, Try.results100] <;> rfl) rfl ?_
  exact ⟨rfl, rfl⟩

/-- A row whose first m are filled. -/
def rptL (a : Int) (N m : Nat) : List Value := List.replicate m (.int .i64 a) ++ List.replicate (N - m) (.int .i64 0)

theorem rptL_len {a : Int} {N m : Nat} (h : m ≤ N) : (rptL a N m).length = N := by simp [rptL]; omega

theorem rptL_splice {a : Int} {N m k : Nat} (h : m + k ≤ N) : splice (rptL a N m) m (List.replicate k (.int .i64 a)) = rptL a N (m + k) := by
  unfold splice rptL
  rw [List.take_append_of_le_length (by simp), List.drop_append, List.take_of_length_le (by simp), List.drop_of_length_le (by simp)]
  simp only [List.length_replicate, List.drop_replicate, List.nil_append]
  rw [← List.append_assoc, List.replicate_append_replicate]
  congr 2
  omega

theorem made_zero {a : Int} {N : Nat} (h1 : 1 ≤ N) (h7 : N ≤ 7) : (madeCells (Value.int .i64 0).cells (N * 1)).toList = rptL a N 0 := by
  have e : (Value.int .i64 0).cells = #[.int .i64 0] := rfl
  simp [madeCells, e, Nat.mod_one, rptL]
  rw [List.map_const', List.length_range]

theorem rptL_full {a : Int} {m : Nat} : rptL a m m = iE.vs (List.replicate m a) := by
  unfold rptL
  rw [Nat.sub_self, List.replicate_zero, List.append_nil]
  induction m with
  | zero => rfl
  | succ k ih => rw [List.replicate_succ, List.replicate_succ, vs_cons, ← ih]; rfl

/-- A row that is known whole. -/
theorem row_whole {w : World} {base : Nat} {e : TypeId} {g N : Nat} {xs : List Value} (h : w.ownsRow base e 1 (.slice (some ⟨g, 0, none⟩) N N) N xs) : w.heap[g]? = some (.cells xs.toArray e (0, 0)) := by
  rcases h.2 with ⟨q, _⟩ | ⟨g', cap, cur, hv, hb, hg, h1, h2, h3, h4⟩
  · cases q
  · cases hv
    have : cur.toList = xs := by rw [← h4, List.take_of_length_le (by simp [h3])]
    rw [hg, ← this]

theorem row_of {w : World} {base : Nat} {e : TypeId} {g N : Nat} {xs : List Value} (h : w.heap[g]? = some (.cells xs.toArray e (0, 0))) (hl : xs.length = N) (hb : base ≤ g) (hN : N ≤ maxLen) : w.ownsRow base e 1 (.slice (some ⟨g, 0, none⟩) N N) N xs :=
  ⟨by simp [hl], .inr ⟨g, N, xs.toArray, rfl, hb, h, Nat.le_refl _, hN, by simp [hl], by simp [← hl]⟩⟩

theorem infoIntR : (Try.prog.info? 3).map (fun i => (i.zero, i.size, i.bytes)) = some (some (.int .i64 0), 1, 8) := by kernel_rfl

set_option maxRecDepth 100000 in
set_option maxHeartbeats 4000000 in
theorem Repeat_any (v : Value) (a n : Int) (w : World) (hv : RdG iE w v [a]) (h1 : 1 ≤ n) (h7 : n ≤ 7) :
    Calls Try.prog 93 #[v, .int .i64 n] w fun e w' => ∃ v', e = .returned v' ∧ w'.ownsRow w.heap.size 3 1 v' n.toNat (iE.vs (List.replicate n.toNat a)) ∧ Below w.heap.size w w' := by
  obtain ⟨N, rfl⟩ : ∃ N : Nat, n = N := ⟨n.toNat, by omega⟩
  rw [Int.toNat_natCast]
  have HV := hide hv
  obtain ⟨ao, cap, hvv, hc1, hc2⟩ := hv.shape
  subst hvv
  obtain ⟨b, off, rfl, hb, q⟩ := hv.hereI (i := 0) rfl
  have HQ := hide q
  have u1 : IntKind.u64.wrap 1 = 1 := by decide
  have u2 : IntKind.u64.wrap (N : Int) = (N : Int) := by rw [IntKind.wrap_u64]; omega
  have u3 : IntKind.i64.wrap (N : Int) = (N : Int) := by rw [IntKind.wrap_i64]; omega
  have d1 : decide ((N : Int) < 0) = false := decide_eq_false (by omega)
  have d2 : decide (9223372036854775807 < (N : Int)) = false := decide_eq_false (by omega)
  have hN1 : 1 ≤ N := by omega
  have hN7 : N ≤ 7 := by omega
  have HMD := hide (made_zero (a := a) hN1 hN7)
  obtain ⟨ci, hci, hcz, hcs, hcb⟩ := info_parts infoIntR
  have HCI := hide hci
  have HCZ := hide hcz
  have HCS := hide hcs
  have HBY := hide (show ci.bytes * N ≤ 281474976710656 by rw [hcb]; omega)
  have HMX := hide (show N ≤ maxLen by unfold maxLen; omega)
  clear hv q hci hcz hcs hcb
  go_enter Try.func93, Try.ntmps93
  have HSRC : Hid (∀ W, Below w.heap.size w W → ∀ (j : Nat) u, (List.replicate 1 (Value.int .i64 a))[j]? = some u → W.cell? ((⟨b, off, none⟩ : Addr).add j) = some u) := hide (fun W hW j u hu => by
    rw [List.getElem?_replicate] at hu
    split at hu
    · cases hu
      obtain rfl : j = 0 := by omega
      rw [Addr.add_lit]
      exact cell_belowG HQ.out hW
    · cases hu)
  have HMN := hide (show (List.replicate 1 (Value.int .i64 a)).length = Nat.min 1 N by rw [List.length_replicate]; exact (Nat.min_eq_left hN1).symm)
  have HF0 := hide (show 0 + (List.replicate 1 (Value.int .i64 a)).length ≤ (rptL a N 0).length by rw [rptL_len (by omega), List.length_replicate]; omega)
  have HON := hide (fun k => show ∀ u ∈ List.replicate k (Value.int .i64 a), u.oneCell' = true from fun u hu => by rw [List.eq_of_mem_replicate hu]; rfl)
  have HSP := hide (rptL_splice (a := a) (N := N) (m := 0) (k := 1) (by omega))
  go_wp2_with (first
    | (go_at_call 100; refine (Mul_any N _ h1 h7).mono ?_; rintro e w1 ⟨rfl, hw1⟩; rw [hw1]; clear hw1 w1)
    | (refine wpList_make_full _ rfl _ _ _ rfl w.heap.size 3 ci _ 1 Try.underlying23 HCI.out HCZ.out HCS.out .i64 .i64 N N N rfl rfl rfl rfl HBY.out HMX.out (Nat.le_refl _) ?_; intro w2 ho2 hg2; rw [HMD.out] at ho2; have HO2 := hide (row_whole ho2); have HB2 := hide (below_grownO (Below.refl w.heap.size w) hg2 (fun k hk => by cases hk) (Nat.le_refl _)); clear ho2 hg2)
    | (refine wpList_copy_splice rfl _ _ 23 23 rfl 3 Try.underlying23 Try.sizeIntR _ _ N N 1 cap rfl rfl w.heap.size 0 (rptL a N 0) 3 HO2.out (List.replicate 1 (Value.int .i64 a)) HMN.out (fun _ => ⟨rfl, _, rfl, HSRC.out _ HB2.out⟩) HF0.out (HON.out 1) w.heap.size w HB2.out (Nat.le_refl _) ?_; intro w3 hg3 hb3; rw [HSP.out, Nat.zero_add] at hg3; have HO3 := hide hg3.out; have HB3 := hide hb3; clear hg3 hb3))
  go_loopw [8] (fun nv wr => ∃ m : Nat, 1 ≤ m ∧ m ≤ N ∧ nv = .int .i64 m ∧ Hid (wr.heap[w.heap.size]? = some (.cells (rptL a N m).toArray 3 (0, 0))) ∧ Below w.heap.size w wr)
    (fun nv _ => N - (intOf nv).toNat)
  case atStart => exact ⟨1, by omega, hN1, rfl, HO3, HB3.out⟩
  case round =>
    obtain ⟨m, hm1, hm2, rfl, HO, hbr⟩ := hrel
    have HBR := hide hbr
    clear hbr
    by_cases hlt : m < N
    · have d3 : decide ((m : Int) < (N : Int)) = true := decide_eq_true (by omega)
      have hk1 : (0 : Int) ≤ (m : Int) := by omega
      obtain ⟨K, hK⟩ : ∃ K, K = Nat.min m (N - m) := ⟨_, rfl⟩
      have hKm : K ≤ m ∧ m + K ≤ N ∧ 0 < K := by
        have e1 : K ≤ m := by rw [hK]; exact Nat.min_le_left _ _
        have e2 : K ≤ N - m := by rw [hK]; exact Nat.min_le_right _ _
        have e3 : 0 < K := by rw [hK]; exact Nat.lt_min.2 ⟨by omega, by omega⟩
        exact ⟨e1, by omega, e3⟩
      have HK2 := hide (show (List.replicate K (Value.int .i64 a)).length = Nat.min m (N - m) by rw [List.length_replicate, hK])
      have HFI := hide (show m + (List.replicate K (Value.int .i64 a)).length ≤ (rptL a N m).length by rw [rptL_len hm2, List.length_replicate]; exact hKm.2.1)
      have HSPL := hide (rptL_splice (a := a) hKm.2.1)
      have HBD := hide (Below.drew HBR.out)
      have hne : ¬ (N = m) := by omega
      have hw9 : IntKind.i64.wrap ((m : Int) + (K : Int)) = ((m + K : Nat) : Int) := by rw [IntKind.wrap_i64]; omega
      clear hK
      have HS2 : Hid (∀ (j : Nat) v, (List.replicate K (Value.int .i64 a))[j]? = some v → wr.cell? ((⟨w.heap.size, 0, none⟩ : Addr).add j) = some v) := hide (fun j u hu => by
        rw [List.getElem?_replicate] at hu
        split at hu
        · cases hu
          rw [Addr.add_lit, Nat.zero_add, cell_of_row _ _ _ _ _ _ HO.out]
          simp only [List.getElem?_toArray, rptL]
          rw [List.getElem?_append_left (by simp; omega), List.getElem?_replicate, if_pos (by omega)]
        · cases hu)
      go_wp2_with fail
      go_region_law (refine step_copy_splice rfl (.tmp 41) (.tmp 44) 23 23 rfl 3 Try.underlying23 Try.sizeIntR _ _ (N - m) (N - m) m N (by simp [Act.eval, Act.put] <;> rfl) (by simp [Act.eval, Act.put] <;> rfl) w.heap.size m (rptL a N m) 3 (by exact HO.out) (List.replicate K (Value.int .i64 a)) HK2.out (fun _ => ⟨rfl, _, rfl, HS2.out⟩) HFI.out (HON.out K) w.heap.size w HBD.out (Nat.le_refl _) ?_; intro w4 hg4 hb4)
      rw [HSPL.out] at hg4
      go_simp
      go_roundw
      case rel => exact ⟨_, _, _, _, _, _, _, _, _, _, _, _, _, _, ⟨m + K, by omega, hKm.2.1, by simp, hg4, hb4⟩, rfl⟩
      case measure => simp [intOf]; omega
    · obtain rfl : m = N := by omega
      have d3 : decide ((m : Int) < (m : Int)) = false := decide_eq_false (by omega)
      go_wp2_with fail
      go_ret
      refine ⟨_, rfl, ?_, HBR.out⟩
      have := row_of (base := w.heap.size) HO.out (rptL_len (Nat.le_refl _)) (Nat.le_refl _) HMX.out
      rw [rptL_full] at this
      exact this

end Go.Proofs.Ytbffmdhogehfnaa

/-
  The walk over a node's lead.
-/
namespace Go.Proofs.Ytbffmdhogehfnaa
open Go.RowKit Go.Maps
set_option linter.unusedVariables false

/-- A row that is new has a label of its own. -/
theorem Chg.newRow {w w' : World} {lab : Nat → Nat} {v' : Value} {i base : Nat} {e : TypeId} {K n : Nat} {xs : List Value} (hl : LbOk 0 w lab) (hb : Below w.heap.size w w') (ho : w'.ownsRow base e K v' n xs) (hbase : w.heap.size ≤ base) (S : Nat → Prop) : Chg 0 w w' lab (labTo lab v'.ownBlock i) S := by
  refine ⟨hb.os, hb.tape, hb.output, hb.size, fun k hk _ => hb.block k hk, fun k hk => ?_, fun g hg => ?_⟩
  · unfold labTo
    split
    · rename_i q
      have := (ho.lt k q).1
      omega
    · rfl
  · unfold labTo
    split
    · rename_i q
      have := (ho.lt g q).2
      omega
    · exact hl g (Nat.le_trans hb.size hg)

theorem owns_zero {w : World} {base : Nat} {e : TypeId} {K : Nat} {v : Value} {n : Nat} {xs : List Value} (h : w.ownsRow base e K v n xs) : w.ownsRow 0 e K v n xs := by
  refine ⟨h.1, ?_⟩
  rcases h.2 with q | ⟨g, cap, cur, hv, hb, r⟩
  · exact .inl q
  · exact .inr ⟨g, cap, cur, hv, Nat.zero_le _, r⟩

theorem Nm.newNext {w w3 w4 : World} {lab : Nat → Nat} {B base : Nat} {y : Nd} {lv vv nv hv v3 : Value} {l : List Int} (h : Nm w lab B y lv vv nv hv) (hb : Below w.heap.size w w3) (ho : w3.ownsRow base 3 1 v3 l.length (iE.vs l)) (hbase : w.heap.size ≤ base) (hg : w3.grownBy w4 (some B)) (hB : Blk w4 B 52 (ndA { y with next := l } lv vv v3 hv)) :
    Nm w4 (labTo lab v3.ownBlock 3) B { y with next := l } lv vv v3 hv ∧ Chg 0 w w4 lab (labTo lab v3.ownBlock 3) (fun i => i = 5) := by
  have hc1 : Chg 0 w w3 lab (labTo lab v3.ownBlock 3) (fun i => i = 5) := Chg.newRow h.ok hb ho hbase _
  have hlb : labTo lab v3.ownBlock 3 B = 5 := (hc1.labs B h.blk.lt).trans h.lb
  have hc2 : Chg 0 w3 w4 (labTo lab v3.ownBlock 3) (labTo lab v3.ownBlock 3) (fun i => i = 5) := Chg.grown hc1.ok hg hlb
  have hc := hc1.trans hc2
  have hn := (Row.grew (lab := lab) (i := 3) (owns_zero ho)).keep hc2 (by omega)
  exact ⟨⟨hB, hlb, h.log.keep hc (by omega), h.vot.keep hc (by omega), hn, h.hav.keep hc (by omega), hc2.ok⟩, hc⟩

theorem Nm.newHave {w w3 w4 : World} {lab : Nat → Nat} {B base : Nat} {y : Nd} {lv vv nv hv v3 : Value} {l : List Int} (h : Nm w lab B y lv vv nv hv) (hb : Below w.heap.size w w3) (ho : w3.ownsRow base 3 1 v3 l.length (iE.vs l)) (hbase : w.heap.size ≤ base) (hg : w3.grownBy w4 (some B)) (hB : Blk w4 B 52 (ndA { y with hav := l } lv vv nv v3)) :
    Nm w4 (labTo lab v3.ownBlock 4) B { y with hav := l } lv vv nv v3 ∧ Chg 0 w w4 lab (labTo lab v3.ownBlock 4) (fun i => i = 5) := by
  have hc1 : Chg 0 w w3 lab (labTo lab v3.ownBlock 4) (fun i => i = 5) := Chg.newRow h.ok hb ho hbase _
  have hlb : labTo lab v3.ownBlock 4 B = 5 := (hc1.labs B h.blk.lt).trans h.lb
  have hc2 : Chg 0 w3 w4 (labTo lab v3.ownBlock 4) (labTo lab v3.ownBlock 4) (fun i => i = 5) := Chg.grown hc1.ok hg hlb
  have hc := hc1.trans hc2
  have hn := (Row.grew (lab := lab) (i := 4) (owns_zero ho)).keep hc2 (by omega)
  exact ⟨⟨hB, hlb, h.log.keep hc (by omega), h.vot.keep hc (by omega), h.nxt.keep hc (by omega), hn, hc2.ok⟩, hc⟩

theorem vs_setI (l : List Int) (k : Nat) (u : Int) : iE.vs (l.set k u) = (iE.vs l).set k (.int .i64 u) := by
  induction l generalizing k with
  | nil => rfl
  | cons a l ih =>
    cases k with
    | zero => rfl
    | succ k => rw [List.set_cons_succ, vs_cons, vs_cons, ih]; rfl

theorem Nm.setNext {w : World} {lab : Nat → Nat} {B g n cap : Nat} {y : Nd} {lv vv hv : Value} (h : Nm w lab B y lv vv (.slice (some ⟨g, 0, none⟩) n cap) hv) (k : Nat) (u : Int) :
    Nm (w.setCell ⟨g, k, none⟩ (.int .i64 u)) lab B { y with next := y.next.set k u } lv vv (.slice (some ⟨g, 0, none⟩) n cap) hv ∧ Chg 0 w (w.setCell ⟨g, k, none⟩ (.int .i64 u)) lab lab (fun i => i = 3) := by
  have hrow := h.nxt
  have hlg : lab g = 3 := hrow.2 g (by simp [Value.ownBlock])
  have hn : n = y.next.length := by
    obtain ⟨ao', cap', hv'⟩ := owns_shapeK hrow.1
    simp only [Value.slice.injEq] at hv'
    exact hv'.2.1
  have hc : Chg 0 w (w.setCell ⟨g, k, none⟩ (.int .i64 u)) lab lab (fun i => i = 3) := Chg.grown h.ok (grown_setCell w g k _) hlg
  have hr : Row (w.setCell ⟨g, k, none⟩ (.int .i64 u)) lab 3 3 1 (.slice (some ⟨g, 0, none⟩) n cap) (y.next.set k u).length (iE.vs (y.next.set k u)) := by
    refine ⟨?_, hrow.2⟩
    have h1 := hrow.1
    rw [← hn] at h1
    have h2 := owns_setCell h1 k (.int .i64 u)
    rw [List.length_set, ← hn, vs_setI]
    exact h2
  exact ⟨⟨h.blk.keep hc (by rw [h.lb]; omega), h.lb, h.log.keep hc (by omega), h.vot.keep hc (by omega), hr, h.hav.keep hc (by omega), hc.ok⟩, hc⟩

theorem Nm.setHave {w : World} {lab : Nat → Nat} {B g n cap : Nat} {y : Nd} {lv vv nv : Value} (h : Nm w lab B y lv vv nv (.slice (some ⟨g, 0, none⟩) n cap)) (k : Nat) (u : Int) :
    Nm (w.setCell ⟨g, k, none⟩ (.int .i64 u)) lab B { y with hav := y.hav.set k u } lv vv nv (.slice (some ⟨g, 0, none⟩) n cap) ∧ Chg 0 w (w.setCell ⟨g, k, none⟩ (.int .i64 u)) lab lab (fun i => i = 4) := by
  have hrow := h.hav
  have hlg : lab g = 4 := hrow.2 g (by simp [Value.ownBlock])
  have hn : n = y.hav.length := by
    obtain ⟨ao', cap', hv'⟩ := owns_shapeK hrow.1
    simp only [Value.slice.injEq] at hv'
    exact hv'.2.1
  have hc : Chg 0 w (w.setCell ⟨g, k, none⟩ (.int .i64 u)) lab lab (fun i => i = 4) := Chg.grown h.ok (grown_setCell w g k _) hlg
  have hr : Row (w.setCell ⟨g, k, none⟩ (.int .i64 u)) lab 4 3 1 (.slice (some ⟨g, 0, none⟩) n cap) (y.hav.set k u).length (iE.vs (y.hav.set k u)) := by
    refine ⟨?_, hrow.2⟩
    have h1 := hrow.1
    rw [← hn] at h1
    have h2 := owns_setCell h1 k (.int .i64 u)
    rw [List.length_set, ← hn, vs_setI]
    exact h2
  exact ⟨⟨h.blk.keep hc (by rw [h.lb]; omega), h.lb, h.log.keep hc (by omega), h.vot.keep hc (by omega), h.nxt.keep hc (by omega), hr, hc.ok⟩, hc⟩

theorem rptL_zero {N : Nat} : rptL 0 N 0 = iE.vs (List.replicate N 0) := by
  rw [← rptL_full]
  simp [rptL]

theorem RdG.oneI (w : World) (a : Int) : RdG iE (w.alloc (.cells #[.int .i64 a] 3)) (.slice (some ⟨w.heap.size, 0, none⟩) 1 1) [a] := RdG.newL w [a] _ _ rfl (by simp)

set_option maxRecDepth 100000 in
set_option maxHeartbeats 4000000 in
theorem lead_any (B : Nat) (x : Nd) (lv vv nv hv : Value) (lab : Nat → Nat) (w : World) (hm : Nm w lab B x lv vv nv hv) (hn0 : 1 ≤ x.n) (hn7 : x.n ≤ 7) (hi0 : 0 ≤ x.id) (hin : x.id < x.n) (hll : x.log.length ≤ 1000) (hc0 : 0 ≤ x.com) :
    Calls Try.prog 84 #[.pointer (some ⟨B, 0, none⟩)] w fun e w' => ∃ lab' nv' hv', e = .returned (.tuple #[]) ∧ Nm w' lab' B x.lead lv (.slice none 0 0) nv' hv' ∧ Chg 0 w w' lab lab' (fun i => i ≠ 0) := by
  have HM := hide hm
  obtain ⟨lo, lc, hlv⟩ := owns_shapeK hm.log.1
  subst hlv
  have HB := hide hm.blk
  unfold ndA at HB
  clear hm
  go_enter Try.func84, Try.ntmps84
  go_upto_region 1 with (first
    | (refine wpList_store_int (k := 5) rfl rfl rfl rfl HB.out rfl Try.sizeIntR ?_; intro w1 hB1 hg1; have HB1 := hide hB1; have HG1 := hide hg1; clear hB1 hg1)
    | (refine wpList_store_slice (k := 7) rfl rfl rfl rfl HB1.out rfl Try.sizeIntsR ?_; intro w2 hB2 hg2; have HB2 := hide hB2; have HG2 := hide (grown_same HG1.out hg2); clear hB2 hg2))
  obtain ⟨hN2, hC2⟩ := HM.out.wrote (y := { x with role := 2, votes := [] }) HG2.out HB2.out rfl (.inr ⟨rfl, rfl⟩) (.inl ⟨rfl, rfl⟩) (.inl ⟨rfl, rfl⟩)
  have HN2 := hide hN2
  have HC2 := hide hC2
  have c0 := hN2.blk.cell 0
  have c4 := hN2.blk.cell 4
  have c8 := hN2.blk.cell 8
  have z8 := hN2.blk.frozen 8
  have bl := hN2.blk.lt
  simp [ndA] at c0 c4 c8
  have hw1 : IntKind.i64.wrap ((x.log.length : Int) + 1) = (x.log.length : Int) + 1 := by rw [IntKind.wrap_i64]; omega
  have HR := hide (Repeat_any _ ((x.log.length : Int) + 1) x.n _ (RdG.oneI w2 ((x.log.length : Int) + 1)).drew hn0 hn7)
  have HA := hide (Below.drew (below_allocG w2 (.cells #[.int .i64 ((x.log.length : Int) + 1)] 3)))
  clear hN2 hC2 HB HB1 HB2 HG1 HG2
  dsimp only [Act.put]
  go_cut [24] (fun _ wc => ∃ lab' nv', Nm wc lab' B { x with role := 2, votes := [], next := List.replicate x.n.toNat ((x.log.length : Int) + 1) } (.slice lo x.log.length lc) (.slice none 0 0) nv' hv ∧ Chg 0 w wc lab lab' (fun i => i = 5))
  case first =>
    go_region_with (go_at_call 93; refine HR.out.mono ?_; rintro e w3 ⟨v3, rfl, ho3, hb3⟩; obtain ⟨ao3, cap3, hv3⟩ := owns_shapeK ho3; subst hv3; have hB3 := (HN2.out.blk.later HA.out).later hb3; have k8 := hB3.cell 8; have kz := hB3.frozen 8; have kl := hB3.lt; simp [ndA] at k8)
    all_goals
      have hb23 := HA.out.trans (hb3.mono HA.out.size)
      have hB4 := hB3.set 8 (.slice ao3 x.n.toNat cap3)
      have hl9 : (List.replicate x.n.toNat ((x.log.length : Int) + 1)).length = x.n.toNat := List.length_replicate
      have ho4 : w3.ownsRow (w2.alloc (.cells #[.int .i64 ((x.log.length : Int) + 1)] 3)).drew.heap.size 3 1 (.slice ao3 x.n.toNat cap3) (List.replicate x.n.toNat ((x.log.length : Int) + 1)).length (iE.vs (List.replicate x.n.toNat ((x.log.length : Int) + 1))) := by rw [hl9]; exact ho3
      obtain ⟨hN4, hC4⟩ := HN2.out.newNext (l := List.replicate x.n.toNat ((x.log.length : Int) + 1)) hb23 ho4 HA.out.size (grown_setCell w3 B 8 (.slice ao3 x.n.toNat cap3)) hB4
      have HN4 := hide hN4
      have HC4 := hide ((HC2.out).trans hC4)
      clear hN4 hC4 hB4 hB3 ho3 ho4 hb3 hb23 hl9 k8 kz kl
      generalize w3.setCell ⟨B, 8, none⟩ (.slice ao3 x.n.toNat cap3) = wz at HN4 HC4 ⊢
      go_wp2_with fail
      go_meet
      case rel => exact ⟨_, _, HN4.out, HC4.out⟩
  case rest =>
    obtain ⟨lab1, nv1, hN1, hC1⟩ := hcut
    clear HR HA HN2 HC2 c0 c4 c8 z8 bl hw1
    obtain ⟨N, hN⟩ : ∃ N : Nat, x.n = N := ⟨x.n.toNat, by omega⟩
    obtain ⟨I, hI⟩ : ∃ I : Nat, x.id = I := ⟨x.id.toNat, by omega⟩
    have HN1 := hide hN1
    have HC1 := hide hC1
    have HBk := hide hN1.blk
    have d0 := hN1.blk.cell 0
    have dl := hN1.blk.lt
    simp [ndA] at d0
    unfold ndA at HBk
    obtain ⟨ci, hci, hcz, hcs, hcb⟩ := info_parts infoIntR
    have hN7 : N ≤ 7 := by omega
    have hN1' : 1 ≤ N := by omega
    have HMD := hide (made_zero (a := 0) hN1' hN7)
    have HCI := hide hci
    have HCZ := hide hcz
    have HCS := hide hcs
    have HBY := hide (show ci.bytes * N ≤ 281474976710656 by rw [hcb]; omega)
    have HMX := hide (show N ≤ maxLen by unfold maxLen; omega)
    have HNN := hide hN
    have HRL := hide (show (List.replicate N (0 : Int)).length = N from List.length_replicate)
    have HII := hide hI
    clear hci hcz hcs hcb hN1 hC1 hN hI
    go_upto_region 3 with (first
      | (refine wpList_make_full _ rfl _ _ _ rfl wc.heap.size 3 ci _ 1 Try.underlying23 HCI.out HCZ.out HCS.out .i64 .i64 x.n x.n N rfl rfl HNN.out HNN.out HBY.out HMX.out (Nat.le_refl _) ?_; intro w5 ho5 hg5; rw [HMD.out, rptL_zero] at ho5; have hb5 := below_grownO (Below.refl wc.heap.size wc) hg5 (fun k hk => by cases hk) (Nat.le_refl _); have HO5 := hide ho5; have HB5 := hide hb5; have HK5 := hide (HBk.out.later hb5); clear ho5 hg5 hb5)
      | (refine wpList_store_slice (k := 9) rfl rfl rfl rfl HK5.out rfl Try.sizeIntsR ?_; intro w6 hB6 hg6; have HB6 := hide hB6; have HG6 := hide hg6; clear hB6 hg6))
    have ho6 : w5.ownsRow wc.heap.size 3 1 (.slice (some ⟨wc.heap.size, 0, none⟩) N N) (List.replicate N (0 : Int)).length (iE.vs (List.replicate N 0)) := by rw [HRL.out]; exact HO5.out
    obtain ⟨hN6, hC6⟩ := HN1.out.newHave HB5.out ho6 (Nat.le_refl _) HG6.out HB6.out
    have HN6 := hide hN6
    have HC6 := hide (HC1.out.trans hC6)
    have e1 := hN6.blk.cell 1
    have e4 := hN6.blk.cell 4
    have e9 := hN6.blk.cell 9
    have el := hN6.blk.lt
    simp [ndA] at e1 e4 e9
    rw [HII.out] at e1
    have hrw := row_whole (show w6.ownsRow 0 3 1 (.slice (some ⟨wc.heap.size, 0, none⟩) N N) N (iE.vs (List.replicate N 0)) by
      have := hN6.hav.1
      simp only [List.length_replicate] at this
      exact this)
    have hIN : I < N := by have := HNN.out; have := HII.out; omega
    have gc := cell_of_row w6 wc.heap.size I _ _ _ hrw
    have gz := Blk.frozen (w := w6) (B := wc.heap.size) (t := 3) hrw I
    have gcl : wc.heap.size < w6.heap.size := (Array.getElem?_eq_some_iff.1 hrw).1
    have hv0 : (iE.vs (List.replicate N 0)).toArray[I]? = some (.int .i64 0) := by
      have := vs_get (E := iE) (List.replicate N 0) I (by simpa using hIN) 0 (by decide)
      rw [Nat.mul_one, Nat.add_zero] at this
      rw [List.getElem?_toArray, this]
      simp [iE]
    rw [hv0] at gc
    have hk1 : (0 : Int) ≤ (I : Int) := by omega
    have hk2 : (I : Int) < (N : Int) := by omega
    clear hN6 hC6 ho6 hrw hv0 HBk HK5 HB6 HG6 HO5 HB5 d0 dl
    dsimp only [Act.put]
    go_cut [54] (fun _ wd => ∃ lab2, Nm wd lab2 B x.lead0 (.slice lo x.log.length lc) (.slice none 0 0) nv1 (.slice (some ⟨wc.heap.size, 0, none⟩) N N) ∧ Chg 0 w wd lab lab2 (fun i => i ≠ 0))
    case first =>
      go_region
      all_goals
        obtain ⟨hN7, hC7⟩ := HN6.out.setHave I x.log.length
        have hD : Below (w6.setCell ⟨wc.heap.size, I, none⟩ (.int .i64 x.log.length)).heap.size (w6.setCell ⟨wc.heap.size, I, none⟩ (.int .i64 x.log.length)) (w6.setCell ⟨wc.heap.size, I, none⟩ (.int .i64 x.log.length)).drew := Below.drew (Below.refl _ _)
        have HN8 := hide (hN7.below hD)
        have HC8 := hide (((HC6.out.mono (fun i hi => (by omega : i ≠ 0))).trans (hC7.mono (fun i hi => (by omega : i ≠ 0)))).trans (Chg.below _ hN7.ok hD))
        have HE := hide (show ({ x with role := 2, votes := [], next := List.replicate x.n.toNat ((x.log.length : Int) + 1), hav := (List.replicate N (0 : Int)).set I x.log.length } : Nd) = x.lead0 by
          have e1 : N = x.n.toNat := by rw [HNN.out]; rfl
          have e2 : I = x.id.toNat := by rw [HII.out]; rfl
          rw [e1, e2]
          rfl)
        clear hN7 hC7 hD e1 e4 e9 gc gz
        simp only at HN8
        rw [HE.out] at HN8
        generalize (w6.setCell ⟨wc.heap.size, I, none⟩ (.int .i64 x.log.length)).drew = wz at HN8 HC8 ⊢
        go_wp2_with fail
        go_meet
        case rel => exact ⟨_, HN8.out, HC8.out⟩
    case rest =>
      obtain ⟨lab2, hNd, hCd⟩ := hcut
      have HNd := hide hNd
      have HCd := hide hCd
      have HL : Hid (x.lead = x.lead0.count) := hide rfl
      have HCO := hide (count_any B x.lead0 _ _ _ _ lab2 _ hNd (show 0 ≤ x.n by omega) (show x.n ≤ 1000 by omega) hll (show x.lead0.hav.length ≤ 1000 by simp [Nd.lead0]; omega) hc0)
      clear hNd hCd e1 e4 e9 gc gz HN6 HC6
      go_wp2_with (go_at_call 67; refine HCO.out.mono ?_; rintro e w9 ⟨rfl, hN9, hC9⟩; have HN9 := hide hN9; have HC9 := hide hC9; clear hN9 hC9)
      refine bodyPost_end (v := .tuple #[]) (by simp [results, Try.results84]) rfl ?_
      rw [HL.out]
      exact ⟨_, _, _, rfl, HN9.out, HCd.out.trans (HC9.out.mono (fun i hi => (by omega : i ≠ 0)))⟩

end Go.Proofs.Ytbffmdhogehfnaa

/-
  The walks over a node's elect and stand.
-/
namespace Go.Proofs.Ytbffmdhogehfnaa
open Go.RowKit Go.Maps
set_option linter.unusedVariables false

/-- The votes grow. -/
theorem Nm.appVotes {w wa w5 w6 : World} {lab : Nat → Nat} {B : Nat} {y : Nd} {lv vv nv hv v5 : Value} {l : List Int} (h : Nm w lab B y lv vv nv hv) (hb : Below w.heap.size w wa) (ho : w5.ownsRow 0 3 1 v5 l.length (iE.vs l)) (hg : wa.grownBy w5 vv.ownBlock) (hat : OnAt wa vv v5) (hg6 : w5.grownBy w6 (some B)) (hB : Blk w6 B 52 (ndA { y with votes := l } lv v5 nv hv)) :
    Nm w6 (labTo lab v5.ownBlock 2) B { y with votes := l } lv v5 nv hv ∧ Chg 0 w w6 lab (labTo lab v5.ownBlock 2) (fun i => i = 5 ∨ i = 2) := by
  have hc0 : Chg 0 w wa lab lab (fun i => i = 5 ∨ i = 2) := Chg.below _ h.ok hb
  have hc1 : Chg 0 wa w5 lab (labTo lab v5.ownBlock 2) (fun i => i = 5 ∨ i = 2) := Chg.row hc0.ok h.vot.2 hg (.inr rfl) hat (ownBlock_lt ho)
  have hc01 := hc0.trans hc1
  have hlb : labTo lab v5.ownBlock 2 B = 5 := (hc01.labs B h.blk.lt).trans h.lb
  have hc2 : Chg 0 w5 w6 (labTo lab v5.ownBlock 2) (labTo lab v5.ownBlock 2) (fun i => i = 5) := Chg.grown hc1.ok hg6 hlb
  have hc := hc01.trans (hc2.mono (fun i hi => .inl hi))
  exact ⟨⟨hB, hlb, h.log.keep hc (by omega), (Row.grew (lab := lab) (i := 2) ho).keep hc2 (by omega), h.nxt.keep hc (by omega), h.hav.keep hc (by omega), hc2.ok⟩, hc⟩

/-- The log grows. -/
theorem Nm.appLog {w wa w5 w6 : World} {lab : Nat → Nat} {B : Nat} {y : Nd} {lv vv nv hv v5 : Value} {l : List Et} (h : Nm w lab B y lv vv nv hv) (hb : Below w.heap.size w wa) (ho : w5.ownsRow 0 65 2 v5 l.length (eE.vs l)) (hg : wa.grownBy w5 lv.ownBlock) (hat : OnAt wa lv v5) (hg6 : w5.grownBy w6 (some B)) (hB : Blk w6 B 52 (ndA { y with log := l } v5 vv nv hv)) :
    Nm w6 (labTo lab v5.ownBlock 1) B { y with log := l } v5 vv nv hv ∧ Chg 0 w w6 lab (labTo lab v5.ownBlock 1) (fun i => i = 5 ∨ i = 1) := by
  have hc0 : Chg 0 w wa lab lab (fun i => i = 5 ∨ i = 1) := Chg.below _ h.ok hb
  have hc1 : Chg 0 wa w5 lab (labTo lab v5.ownBlock 1) (fun i => i = 5 ∨ i = 1) := Chg.row hc0.ok h.log.2 hg (.inr rfl) hat (ownBlock_lt ho)
  have hc01 := hc0.trans hc1
  have hlb : labTo lab v5.ownBlock 1 B = 5 := (hc01.labs B h.blk.lt).trans h.lb
  have hc2 : Chg 0 w5 w6 (labTo lab v5.ownBlock 1) (labTo lab v5.ownBlock 1) (fun i => i = 5) := Chg.grown hc1.ok hg6 hlb
  have hc := hc01.trans (hc2.mono (fun i hi => .inl hi))
  exact ⟨⟨hB, hlb, (Row.grew (lab := lab) (i := 1) ho).keep hc2 (by omega), h.vot.keep hc (by omega), h.nxt.keep hc (by omega), h.hav.keep hc (by omega), hc2.ok⟩, hc⟩

set_option maxRecDepth 100000 in
set_option maxHeartbeats 1000000 in
theorem rIndex_any (v : Value) (l : List Int) (x : Int) (w : World) (hv : RdG iE w v l) :
    Calls Try.prog 92 #[v, .int .i64 x] w fun e w' => ∃ i : Int, e = .returned (.int .i64 i) ∧ decide (0 ≤ i) = decide (x ∈ l) ∧ w' = w := by
  have HV := hide hv
  obtain ⟨ao, cap, rfl, hc1, hc2⟩ := hv.shape
  unfold maxLen at hc2
  clear hv
  go_enter Try.func92, Try.ntmps92
  go_wp2_with fail
  go_loopw [8] (fun iv wr => ∃ j : Nat, j ≤ l.length ∧ iv = .int .i64 j ∧ (∀ (k : Nat) y, k < j → l[k]? = some y → y ≠ x) ∧ w = wr)
    (fun iv _ => l.length - (intOf iv).toNat)
  case atStart => exact ⟨0, by omega, rfl, fun k y h => by omega, rfl⟩
  case round =>
    obtain ⟨j, hj, rfl, hno, rfl⟩ := hrel
    have HNO := hide hno
    clear hno
    by_cases hlt : j < l.length
    · obtain ⟨y, hy⟩ : ∃ c, l[j]? = some c := ⟨_, List.getElem?_eq_getElem hlt⟩
      obtain ⟨b, off, rfl, hbb, q⟩ := HV.out.hereI hy
      have hk1 : (0 : Int) ≤ (j : Int) := by omega
      have hk2 : (j : Int) < (l.length : Int) := by omega
      have HY := hide hy
      clear hy
      by_cases hq : x = y
      · have hb : (x == y) = true := beq_iff_eq.2 hq
        have HM := hide (show decide (0 ≤ (j : Int)) = decide (x ∈ l) by rw [decide_eq_true hk1, decide_eq_true (by rw [hq]; exact List.mem_of_getElem? HY.out)])
        clear hq
        go_wp2_with fail
        go_ret
        exact ⟨_, rfl, HM.out, rfl⟩
      · have hb : (x == y) = false := beq_eq_false_iff_ne.2 hq
        have HQ := hide hq
        clear hq
        go_wp2_with fail
        go_roundw
        case rel => exact ⟨j + 1, by omega, by go_num, fun k z h1 h2 => by
          by_cases e : k = j
          · subst e
            rw [HY.out] at h2
            cases h2
            exact fun q => HQ.out q.symm
          · exact HNO.out k z (by omega) h2, trivial⟩
        case measure => simp [intOf]; omega
    · have hje : j = l.length := by omega
      subst hje
      have HM := hide (show decide (0 ≤ (-1 : Int)) = decide (x ∈ l) by
        rw [decide_eq_false (by omega), decide_eq_false]
        intro hm
        obtain ⟨k, hk, e⟩ := List.mem_iff_getElem.1 hm
        exact HNO.out k x hk (by rw [List.getElem?_eq_getElem hk, e]) rfl)
      go_wp2_with fail
      go_ret
      exact ⟨_, rfl, HM.out, rfl⟩

set_option maxRecDepth 100000 in
theorem rContains_any (v : Value) (l : List Int) (x : Int) (w : World) (hv : RdG iE w v l) :
    Calls Try.prog 83 #[v, .int .i64 x] w fun e w' => e = .returned (.bool (decide (x ∈ l))) ∧ w' = w := by
  have HI := hide (rIndex_any v l x w hv)
  obtain ⟨ao, cap, rfl, _, _⟩ := hv.shape
  clear hv
  go_enter Try.func83, Try.ntmps83
  go_wp2_with fail
  refine HI.out.mono ?_
  rintro e w1 ⟨i, rfl, hi, rfl⟩
  have HD := hide hi
  clear hi
  go_wp2_with fail
  go_ret
  exact ⟨by rw [← HD.out]; rfl, rfl⟩

set_option maxRecDepth 100000 in
set_option maxHeartbeats 4000000 in
theorem elect_any (B : Nat) (x : Nd) (who : Int) (lv vv nv hv : Value) (lab : Nat → Nat) (w : World) (hm : Nm w lab B x lv vv nv hv) (hn0 : 1 ≤ x.n) (hn7 : x.n ≤ 7) (hi0 : 0 ≤ x.id) (hin : x.id < x.n) (hll : x.log.length ≤ 1000) (hc0 : 0 ≤ x.com) (hvl : x.votes.length ≤ 1000) :
    Calls Try.prog 64 #[.pointer (some ⟨B, 0, none⟩), .int .i64 who] w fun e w' => ∃ lab' vv' nv' hv', e = .returned (.tuple #[]) ∧ Nm w' lab' B (x.elect who) lv vv' nv' hv' ∧ Chg 0 w w' lab lab' (fun i => i ≠ 0) := by
  have HM := hide hm
  obtain ⟨vo, vc, hvv⟩ := owns_shapeK hm.vot.1
  subst hvv
  have c7 := hm.blk.cell 7
  have bl := hm.blk.lt
  simp [ndA] at c7
  have HB := hide hm.blk
  have HC := hide (rContains_any _ x.votes who w (RdG.ofOwns hm.vot.1))
  have HE : Hid (x.elect who = if mostB (putV x.votes who).length x.n = true then (x.voted who).lead else x.voted who) := hide rfl
  have HVO : Hid (x.voted who = { x with votes := putV x.votes who }) := hide rfl
  unfold ndA at HB
  clear hm
  go_enter Try.func64, Try.ntmps64
  go_upto_if 11 with (go_at_call 83; refine HC.out.mono ?_; rintro e w1 ⟨rfl, hw1⟩; rw [hw1]; clear hw1 w1)
  go_cut [23] (fun _ wc => ∃ lab1 vv1, Nm wc lab1 B (x.voted who) lv vv1 nv hv ∧ Chg 0 w wc lab lab1 (fun i => i ≠ 0))
  case first =>
    by_cases hx : who ∈ x.votes
    · have HD := hide (decide_eq_true hx)
      have HP := hide (show putV x.votes who = x.votes from if_pos hx)
      rw [HD.out]
      clear hx
      go_wp2_with fail
      go_meet
      case rel => exact ⟨lab, _, by rw [HVO.out, HP.out]; exact HM.out, Chg.refl _ _ _ HM.out.ok⟩
    · have HD := hide (decide_eq_false hx)
      have HP := hide (show putV x.votes who = x.votes ++ [who] from if_neg hx)
      rw [HD.out]
      have hl2 : x.votes.length + [who].length ≤ 1000000000 := by simp; omega
      have HON := hide (HM.out.vot.1.alloc (.cells #[.int .i64 who] 3))
      have HRO := hide (RdG.oneI w who)
      have HBA := hide (HB.out.later (below_allocG w (.cells #[.int .i64 who] 3)))
      have HOF := hide (owns_off HON.out HBA.out (by decide))
      clear hx
      go_wp2_with (first
        | (at_builtin; go_must (refine wpList_append_rdAt (E := iE) (cs := x.votes) (news := [who]) HON.out HRO.out Try.underlying23 infoIntR rfl rfl rfl rfl rfl hl2 (by decide) (Nat.zero_le _) ?_); intro v5 w5 ho5 hg5 hat5; obtain ⟨ao5, cap5, hv5⟩ := owns_shapeK ho5; subst hv5; have HB5 := hide (HBA.out.grown hg5 (fun q => HOF.out q.symm)); have HO5 := hide ho5; have HG5 := hide hg5; have HAT := hide hat5; clear ho5 hg5 hat5)
        | (refine wpList_store_slice (k := 7) rfl rfl rfl rfl HB5.out rfl Try.sizeIntsR ?_; intro w6 hB6 hg6; have HB6 := hide hB6; have HG6 := hide hg6; clear hB6 hg6))
      go_meet
      case rel =>
        have ho6 : w5.ownsRow 0 3 1 (.slice ao5 (x.votes.length + [who].length) cap5) (x.votes ++ [who]).length (iE.vs (x.votes ++ [who])) := by rw [List.length_append]; exact HO5.out
        obtain ⟨hN6, hC6⟩ := HM.out.appVotes (l := x.votes ++ [who]) (below_allocG w (.cells #[.int .i64 who] 3)) ho6 HG5.out HAT.out HG6.out HB6.out
        exact ⟨_, _, by rw [HVO.out, HP.out]; exact hN6, hC6.mono (fun i hi => (by omega : i ≠ 0))⟩
  case rest =>
    obtain ⟨lab1, vv1, hN1, hC1⟩ := hcut
    obtain ⟨vo1, vc1, hvv1⟩ := owns_shapeK hN1.vot.1
    subst hvv1
    have HN1 := hide hN1
    have HC1 := hide hC1
    have d0 := hN1.blk.cell 0
    have d7 := hN1.blk.cell 7
    have dl := hN1.blk.lt
    have e1 : (x.voted who).votes.length = (putV x.votes who).length := rfl
    have e2 : (x.voted who).n = x.n := rfl
    simp [ndA, e1, e2] at d0 d7
    have HMO := hide (fun m => areMost_any (putV x.votes who).length x.n (wc.drewN m) (by omega) (by omega))
    have HLD := hide (fun W (hW : Below wc.heap.size wc W) => lead_any B (x.voted who) _ _ _ _ lab1 W (hN1.below hW) hn0 hn7 hi0 hin hll hc0)
    clear hN1 hC1 HM HB HC c7 bl e1 e2
    generalize hK : (putV x.votes who).length = K at *
    clear hK
    cases hmo : mostB K x.n
    · have HE2 := hide (HE.out.trans (if_neg (by rw [hmo]; simp)))
      have HF := hide hmo
      clear hmo
      go_wp2_with fail
      go_quiet (first | (go_at_call 60; exact Calls.quiet_of_same (HMO.out _)))
      rw [HF.out]
      go_wp2_with fail
      refine bodyPost_end (v := .tuple #[]) (by simp [results, Try.results64]) rfl ?_
      rw [HE2.out]
      have hD : ∀ m, Below wc.heap.size wc (wc.drewN m) := fun m => below_drewN (Below.refl _ _) m
      exact ⟨_, _, _, _, rfl, HN1.out.below (hD _), HC1.out.trans (Chg.below _ HN1.out.ok (hD _))⟩
    · have HE2 := hide (HE.out.trans (if_pos hmo))
      have HF := hide hmo
      clear hmo
      have HLQ := hide (fun m => HLD.out (wc.drewN m) (below_drewN (Below.refl _ _) m))
      go_wp2_with fail
      go_quiet (first | (go_at_call 60; exact Calls.quiet_of_same (HMO.out _)))
      rw [HF.out]
      go_wp2_with (go_at_call 84; refine (HLQ.out _).mono ?_; rintro e w9 ⟨lab9, nv9, hv9, rfl, hN9, hC9⟩; have HN9 := hide hN9; have HC9 := hide hC9; clear hN9 hC9)
      refine bodyPost_end (v := .tuple #[]) (by simp [results, Try.results64]) rfl ?_
      rw [HE2.out]
      have hD : ∀ m, Below wc.heap.size wc (wc.drewN m) := fun m => below_drewN (Below.refl _ _) m
      exact ⟨_, _, _, _, rfl, HN9.out, (HC1.out.trans (Chg.below _ HN1.out.ok (hD _))).trans HC9.out⟩

end Go.Proofs.Ytbffmdhogehfnaa
