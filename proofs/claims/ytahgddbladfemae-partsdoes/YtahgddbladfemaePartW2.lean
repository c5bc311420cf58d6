/-
  The walk over parts.numbered: the map from IDs to numbers.
-/
import Derived.Test.YtahgddbladfemaePartW1
import Derived.Maps.OwnSet
namespace Go.Proofs.Ytahgddbladfemae
open Go.RowKit Go.Maps
set_option linter.unusedVariables false

theorem lawInt : Keyed Try.prog 3 := int_keyed Try.underlying3

theorem zeroInt (w : World) : (zeroValue 3).run Try.prog w = .ok (.int .i64 0) w := by kernel_rfl

/-- IDs that are ints. -/
def WfP (l : List Pt) : Prop := ∀ p ∈ l, (Lit.int .i64 p.id).wf = true

theorem wf_num {n : Int} (h : numB n = true) : (Lit.int .i64 n).wf = true := by
  unfold numB at h
  simp only [decide_eq_true_eq] at h
  exact WalkArith.wf_i64 (by omega)

/-- The map of the first k parts' IDs. -/
def MapOf (D : DataW Unit) (l : List Pt) (k : Nat) : Prop :=
  IsMap D ∧ ∀ id : Int, Maps.has D (.int .i64 id) = hasAhead l k id ∧ ∀ i p, i < k → l[i]? = some p → p.id = id → D.atKey (.int .i64 id) (.lit (.int .i64 0)) = .lit (.int .i64 i)

theorem MapOf.zero (l : List Pt) : MapOf (.map []) l 0 :=
  ⟨isMap_empty, fun id => ⟨by simp [hasAhead, Maps.has], fun i p hi => by omega⟩⟩

theorem hasAhead_succ {l : List Pt} {k : Nat} {p : Pt} (hp : l[k]? = some p) (id : Int) : hasAhead l (k + 1) id = (hasAhead l k id || decide (p.id = id)) := by
  obtain ⟨hk, rfl⟩ := List.getElem?_eq_some_iff.1 hp
  unfold hasAhead
  rw [List.take_succ_eq_append_getElem hk, List.any_append]
  simp

theorem MapOf.succ {D : DataW Unit} {l : List Pt} {k : Nat} {p : Pt} (h : MapOf D l k) (hp : l[k]? = some p) (hn : hasAhead l k p.id = false) : MapOf (D.put (.int .i64 p.id) (.lit (.int .i64 k))) l (k + 1) := by
  obtain ⟨hm, h⟩ := h
  refine ⟨hm.put _ _, fun id => ?_⟩
  rw [hasAhead_succ hp]
  by_cases e : p.id = id
  · subst e
    refine ⟨by rw [has_put_same (k := .int .i64 p.id) hm trivial]; simp, fun i q hi hq hqe => ?_⟩
    rw [atKey_put_same (k := .int .i64 p.id) hm trivial]
    by_cases hik : i = k
    · rw [hik]
    · exact absurd hqe (hasAhead_false.1 hn i q (by omega) hq)
  · have hne : (Lit.int .i64 id) ≠ Lit.int .i64 p.id := fun h => e (by simpa using h.symm)
    refine ⟨by rw [has_put_other hne, (h id).1]; simp [e], fun i q hi hq hqe => ?_⟩
    rw [atKey_put_other hne]
    have hik : i ≠ k := by
      rintro rfl
      rw [hp] at hq
      cases hq
      exact e hqe
    exact (h id).2 i q (by omega) hq hqe

/-- The block B is the map of a list's IDs. -/
def IdM (w : World) (B : Nat) (l : List Pt) : Prop := ∃ D : DataW Unit, w.ownsMap Try.prog 3 (plainElem Try.prog 3) B l.length D ∧ MapOf D l l.length

theorem ownsMap_below {w w' : World} {P : Program} {k : TypeId} {R : Value → Option (DataW Unit × List MemPlace)} {b n C : Nat} {D : DataW Unit} (h : w.ownsMap P k R b n D) (hb : Below C w w') (hC : b < C) : w'.ownsMap P k R b n D := by
  obtain ⟨es, clock, hbk, r⟩ := h
  exact ⟨es, clock, by rw [hb.block _ hC]; exact hbk, r⟩

theorem IdM.lt {w : World} {B : Nat} {l : List Pt} (h : IdM w B l) : B < w.heap.size := by
  obtain ⟨D, h, _⟩ := h
  exact h.lt

theorem IdM.later {w w' : World} {B : Nat} {l : List Pt} (h : IdM w B l) (hb : Below w.heap.size w w') : IdM w' B l := by
  have hl := h.lt
  obtain ⟨D, h, hm⟩ := h
  exact ⟨D, ownsMap_below h hb hl, hm⟩

theorem IdM.set {w : World} {B : Nat} {l : List Pt} (h : IdM w B l) {p : Addr} (hp : B ≠ p.block) (u : Value) : IdM (w.setCell p u) B l := by
  obtain ⟨D, h, hm⟩ := h
  exact ⟨D, h.setCell hp u, hm⟩

set_option maxRecDepth 100000 in
set_option maxHeartbeats 1000000 in
theorem numbered_any (v : Value) (l : List Pt) (w : World) (hv : RdG pE w v l) (hwf : WfP l) :
    Calls Try.prog 19 #[v] w fun e w' => ∃ m, e = .returned (.tuple #[m, flt (chkP l)]) ∧ Below w.heap.size w w' ∧ ((m = .map none ∧ (chkP l).1 ≠ 0) ∨ (m = .map (some (w.heap.size + 1)) ∧ (chkP l).1 = 0 ∧ IdM w' (w.heap.size + 1) l)) := by
  obtain ⟨ao, cap, hvv, hc1, hc2⟩ := hv.shape
  subst hvv
  unfold maxLen at hc2
  by_cases h0 : l.length = 0
  · have HE := hide (show chkP l = (6, -1) by simp [chkP, h0])
    have hl0 : ((l.length : Int) == 0) = true := by simp [h0]
    go_enter Try.func19, Try.ntmps19
    go_wp2_with fail
    exact bodyPost_ret (v := .tuple #[.map none, flt (6, -1)]) (by simp [results, Try.results19, go_sem, flt]) rfl ⟨_, by rw [HE.out], by go_grown, .inl ⟨rfl, by rw [HE.out]; simp⟩⟩
  by_cases hbig : 200 < l.length
  · have HE := hide (show chkP l = (2, -1) by simp [chkP, h0, hbig])
    have hl0 : ((l.length : Int) == 0) = false := beq_eq_false_iff_ne.2 (by omega)
    go_enter Try.func19, Try.ntmps19
    go_wp2_with fail
    exact bodyPost_ret (v := .tuple #[.map none, flt (2, -1)]) (by simp [results, Try.results19, go_sem, flt]) rfl ⟨_, by rw [HE.out], by go_grown, .inl ⟨rfl, by rw [HE.out]; simp⟩⟩
  have HF := hide (show chkP l = chkGo l l.length 0 by simp [chkP, h0, hbig])
  have hl0 : ((l.length : Int) == 0) = false := beq_eq_false_iff_ne.2 (by omega)
  have hmm := @run_makeMap Try.prog
  clear h0
  go_enter Try.func19, Try.ntmps19
  go_wp2_with fail
  go_loopw [21] (fun i wr => ∃ k : Nat, k ≤ l.length ∧ i = .int .i64 k ∧ chkGo l (l.length - k) k = chkP l ∧ (∃ D : DataW Unit, wr.ownsMap Try.prog 3 (plainElem Try.prog 3) (w.heap.size + 1) k D ∧ MapOf D l k) ∧ Blk wr w.heap.size 26 #[.int .i64 0, .int .i64 0] ∧ Below w.heap.size w wr)
    (fun i _ => l.length - (intOf i).toNat)
  case atStart =>
    refine ⟨0, by omega, rfl, by rw [HF.out]; rfl, ⟨_, ?_, MapOf.zero l⟩, ?_, by go_grown⟩
    · have := World.ownsMap_made (w.alloc (.cells #[.int .i64 0, .int .i64 0] 26)) Try.prog 3 (plainElem (H := Unit) Try.prog 3)
      simpa using this
    · exact (Blk.new w _ _).later (below_allocG _ _)
  case round =>
    obtain ⟨k, hk, rfl, hgo, ⟨D, hown, hmap⟩, hblk, hbel⟩ := hrel
    have HG := hide hgo
    have HM := hide hmap
    clear hgo hmap
    by_cases hlt : k < l.length
    · obtain ⟨p, hp⟩ : ∃ p, l[k]? = some p := ⟨_, List.getElem?_eq_getElem hlt⟩
      have hpm : p ∈ l := List.mem_of_getElem? hp
      obtain ⟨b, off, rfl, hb, hat⟩ := hv.here hp
      have hbr : b < wr.heap.size := Nat.lt_of_lt_of_le hb hbel.size
      obtain ⟨c0, c1, c2⟩ := (hat.below hbel).part
      have hk1 : (0 : Int) ≤ (k : Int) := by omega
      have hk2 : (k : Int) < (l.length : Int) := by omega
      have hgd : l.getD k zeroPt = p := by rw [List.getD_eq_getElem?_getD, hp]; rfl
      have hcode := codeAtP_any (.slice (some ⟨b, off, none⟩) l.length cap) l k (wr.alloc (.cells #[.string p.fr, .string p.to_, .int .i64 p.id] 34)) ((hv.below hbel).alloc _) hlt
      have HC := hide hcode
      have HP := hide hp
      have HGD := hide hgd
      clear hat hp hcode hgd
      go_wp2_with fail
      refine HC.out.mono ?_
      rintro e w1 ⟨rfl, hb1⟩
      have hP1 : Blk w1 wr.heap.size 34 #[.string p.fr, .string p.to_, .int .i64 p.id] := (Blk.new wr _ _).later hb1
      have hF1 := (hblk.later (below_allocG wr (.cells #[.string p.fr, .string p.to_, .int .i64 p.id] 34))).later hb1
      have hwl := hown.lt
      have hown1 := ownsMap_below (hown.alloc (.cells #[.string p.fr, .string p.to_, .int .i64 p.id] 34)) hb1 (by simp; omega)
      have hbel1 : Below w.heap.size w w1 := hbel.trans (((below_allocG wr _).trans (hb1.mono (by simp))).mono hbel.size)
      have hlt1 := hP1.lt
      have p2 := hP1.cell 2
      have f0 := hF1.cell 0
      have f1 := hF1.cell 1
      have g0 := hF1.frozen 0
      have g1 := hF1.frozen 1
      have hfl := hF1.lt
      simp at p2 f0 f1
      have hkey : keyOf Try.prog 3 (.int .i64 p.id) = some (.int .i64 p.id) := keyOf_int_mk Try.underlying3 (hwf p hpm)
      have hwk : (Lit.int .i64 (k : Int)).wf = true := WalkArith.wf_i64 (by omega)
      clear c0 c1 c2 hb1 hblk hown
      have HH := hide (HM.out.2 p.id).1
      generalize hHS : Maps.has D (.int .i64 p.id) = HS at *
      by_cases hc : codeP l k = 0
      · rw [hc]
        cases HS
        · have HE := hide (chkGo_ok (n := l.length - k - 1) (codeP2_ok hc (by rw [HGD.out]; exact HH.out.symm)))
          go_wp2_with (first
            | (at_lookup; refine wpList_lookup_own_ok_int _ rfl _ _ 43 rfl 3 3 .i64 lawInt Try.underlying43 Try.underlying3 (zeroInt _) (w.heap.size + 1) k D rfl hown1 _ _ rfl hkey ?_; intro c hat hwc; rw [hHS])
            | (at_mapUpdate; refine wpList_mapUpdate_own _ rfl _ _ _ 43 rfl 3 3 lawInt Try.underlying43 _ (w.heap.size + 1) k D rfl hown1 (by unfold maxLen; omega) _ _ _ rfl rfl hkey _ [] (plainElem_int Try.underlying3 hwk) ?_; intro w2 hown2 hgrow2)
            | go_in)
          have hbel2 : Below w.heap.size w w2 := hbel1.grown (hgrow2) (by omega) (fun j hj => by cases hj; omega)
          have hF2 := hF1.grown hgrow2 (by simp)
          have hown2' := hown2
          go_roundw
          case rel => exact ⟨k + 1, by omega, by go_num, by rw [← HG.out, show l.length - k = l.length - k - 1 + 1 by omega, HE.out]; congr 1, ⟨_, hown2, HM.out.succ HP.out HH.out.symm⟩, hF2, hbel2⟩
          case measure => simp [intOf]; omega
        · have HE := hide (show chkP l = (10, (k : Int)) by
            have h2 := codeP2_twice hc (by rw [HGD.out]; exact HH.out.symm)
            rw [← HG.out, show l.length - k = l.length - k - 1 + 1 by omega, chkGo_no (by rw [h2]; decide), h2])
          go_wp2_with (first
            | (at_lookup; refine wpList_lookup_own_ok_int _ rfl _ _ 43 rfl 3 3 .i64 lawInt Try.underlying43 Try.underlying3 (zeroInt _) (w.heap.size + 1) k D rfl hown1 _ _ rfl hkey ?_; intro c hat hwc; rw [hHS])
            | go_in)
          exact bodyPost_ret (v := .tuple #[.map none, flt (10, k)]) (by simp [results, Try.results19, go_sem, flt, f0, f1]) rfl ⟨_, by rw [HE.out], by go_grown, .inl ⟨rfl, by rw [HE.out]; simp⟩⟩
      · have HE := hide (show chkP l = (codeP l k, (k : Int)) by
          have h2 := codeP2_own hc
          rw [← HG.out, show l.length - k = l.length - k - 1 + 1 by omega, chkGo_no (by rw [h2]; exact hc), h2])
        have hcb : (codeP l k == 0) = false := beq_eq_false_iff_ne.2 hc
        have hcb2 : (codeP l k != 0) = true := by simp [hc]
        have HC0 := hide hc
        generalize codeP l k = cd at *
        clear hc
        cases HS
        all_goals
          go_wp2_with (first
            | (at_lookup; refine wpList_lookup_own_ok_int _ rfl _ _ 43 rfl 3 3 .i64 lawInt Try.underlying43 Try.underlying3 (zeroInt _) (w.heap.size + 1) k D rfl hown1 _ _ rfl hkey ?_; intro c hat hwc; rw [hHS])
            | go_in)
          exact bodyPost_ret (v := .tuple #[.map none, flt (cd, k)]) (by simp [results, Try.results19, go_sem, flt, f0, f1]) rfl ⟨_, by rw [HE.out], by go_grown, .inl ⟨rfl, by rw [HE.out]; exact HC0.out⟩⟩
    · have hz : l.length - k = 0 := by omega
      rw [hz] at HG
      have hke : k = l.length := by omega
      subst hke
      have f0 := hblk.cell 0
      have f1 := hblk.cell 1
      have g0 := hblk.frozen 0
      have g1 := hblk.frozen 1
      have hfl := hblk.lt
      simp at f0 f1
      go_wp2_with fail
      have hne : w.heap.size + 1 ≠ w.heap.size := by omega
      refine bodyPost_ret (v := .tuple #[.map (some (w.heap.size + 1)), flt (0, 0)]) (by simp [results, Try.results19, go_sem, flt, f0, f1]) rfl ⟨_, by rw [← HG.out]; rfl, by go_grown, .inr ⟨rfl, by rw [← HG.out]; rfl, D, ?_, HM.out⟩⟩
      exact (hown.setCell (a := ⟨w.heap.size, 0, none⟩) hne _).setCell (a := ⟨w.heap.size, 1, none⟩) hne _

end Go.Proofs.Ytahgddbladfemae
