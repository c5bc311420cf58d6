/-
  The walks over merge.staysSince and merge.Compact.
-/
import Derived.Test.YtlebbkbbmgmmjadMergeW12
namespace Go.Proofs.Ytlebbkbbmgmmjad
open Go.RowKit

/-- May c be seen at a time from t on, behind one that hides? -/
def stB (t : Int) (wh : Bool) (nw c : Cl) : Bool := decide (t < c.time) || (!hid t nw c && !(wh && c.gone))

/-- The state of staysSince's function. -/
structure StSt (w : World) (S : Nat) (t : Int) (wh : Bool) (nw : Cl) : Prop where
  s : NwSt w (S + 2) t nw
  tB : Bk w S 3 #[.int .i64 t]
  wB : Bk w (S + 1) 4 #[.bool wh]
  jB : Bk w (S + 4) 88 #[nwF (S + 2)]

/-- staysSince's function. -/
def stF (S : Nat) : Value := .func (.func 90) #[] #[.pointer (some ⟨S, 0, none⟩), .pointer (some ⟨S + 4, 0, none⟩), .pointer (some ⟨S + 1, 0, none⟩)]

theorem StSt.below {w w' : World} {S C : Nat} {t : Int} {wh : Bool} {nw : Cl} (h : StSt w S t wh nw) (hb : Below C w w') (hC : S + 4 < C) : StSt w' S t wh nw :=
  ⟨h.s.below hb (by omega), h.tB.below hb (by omega), h.wB.below hb (by omega), h.jB.below hb hC⟩

theorem StSt.lt {w : World} {S : Nat} {t : Int} {wh : Bool} {nw : Cl} (h : StSt w S t wh nw) : S + 4 < w.heap.size := h.jB.lt

set_option maxRecDepth 100000 in
set_option maxHeartbeats 400000 in
theorem staysSince_any (t : Int) (wh : Bool) (w : World) :
    Calls Try.prog 55 #[.int .i64 t, .bool wh] w fun e w' => e = .returned (stF w.heap.size) ∧ StSt w' w.heap.size t wh zeroC ∧ Below w.heap.size w w' ∧ w'.heap.size = w.heap.size + 5 := by
  go_enter Try.func55, Try.ntmps55
  go_wp2_with fail
  have hz0 : ((w.alloc (.cells #[.int .i64 t] 3)).alloc (.cells #[.bool wh] 4)).heap.size = w.heap.size + 2 := by simp
  have hT0 := (Bk.new w 3 #[.int .i64 t]).below (below_alloc' _ (.cells #[.bool wh] 4)) (by simp)
  have hW0 := Bk.new2 w (.cells #[.int .i64 t] 3) 4 #[.bool wh]
  have hb0 : Below w.heap.size w ((w.alloc (.cells #[.int .i64 t] 3)).alloc (.cells #[.bool wh] 4)) := (below_alloc' _ _).trans ((below_alloc' _ _).mono (by simp))
  refine (newestAt_any t _).mono ?_
  rintro e w1 ⟨rfl, hs1, hb1, hz1⟩
  have hT1 := hT0.below hb1 (by simp; omega)
  have hW1 := hW0.below hb1 (by simp)
  rw [hz0] at hs1 hb1 hz1 ⊢
  have hbw : Below w.heap.size w w1 := hb0.trans (hb1.mono (by omega))
  have hJ : Bk (w1.alloc (.cells #[nwF (w.heap.size + 2)] 88)) (w.heap.size + 4) 88 #[nwF (w.heap.size + 2)] := by
    have := Bk.new w1 88 #[nwF (w.heap.size + 2)]
    rw [hz1] at this
    exact this
  have HS := hide (show StSt (w1.alloc (.cells #[nwF (w.heap.size + 2)] 88)) w.heap.size t wh zeroC from ⟨hs1.below (below_alloc' _ _) hs1.lt, hT1.below (below_alloc' _ _) hT1.lt, hW1.below (below_alloc' _ _) hW1.lt, hJ⟩)
  have HB := hide (hbw.alloc (by omega) (.cells #[nwF (w.heap.size + 2)] 88))
  have HZ := hide hz1
  clear hs1 hJ hb1 hbw hT0 hT1 hW0 hW1 hz1 hz0 hb0
  unfold nwF
  go_wp2_with fail
  go_ret
  exact ⟨by rw [HZ.out]; rfl, HS.out, HB.out, by have := HZ.out; simp; omega⟩

set_option maxRecDepth 100000 in
set_option maxHeartbeats 1000000 in
theorem staysSince1_any (t : Int) (wh : Bool) (c nw : Cl) (S : Nat) (w : World) (hS : StSt w S t wh nw) :
    Calls Try.prog 90 #[cA c, .pointer (some ⟨S, 0, none⟩), .pointer (some ⟨S + 4, 0, none⟩), .pointer (some ⟨S + 1, 0, none⟩)] w fun e w' => e = .returned (.bool (stB t wh nw c)) ∧ StSt w' S t wh (nextN t nw c) ∧ w.grownBy w' (some (S + 3)) := by
  unfold cA
  have j0 := hS.jB.cell 0
  have t0 := hS.tB.cell 0
  have b0 := hS.wB.cell 0
  unfold nwF at j0
  simp at j0 t0 b0
  have hlt := hS.lt
  have hlS : S < w.heap.size := by omega
  have hlS1 : S + 1 < w.heap.size := by omega
  have hS1 := hS.below (below_alloc' w (.cells #[.string c.row, .string c.col, .int .i64 c.time, .bool c.gone, .string c.val] 91)) hlt
  have hC1 : Bk (w.alloc (.cells #[.string c.row, .string c.col, .int .i64 c.time, .bool c.gone, .string c.val] 91)) w.heap.size 91 (ca c) := Bk.new _ _ _
  have hG1 : w.grownBy (w.alloc (.cells #[.string c.row, .string c.col, .int .i64 c.time, .bool c.gone, .string c.val] 91)) (some (S + 3)) := gb_alloc (gb_refl _ _) _
  by_cases ht : t < c.time
  · have hd : decide (t < c.time) = true := by simpa using ht
    have HE : Hid (stB t wh nw c = true) := hide (by unfold stB; rw [hd]; rfl)
    have HN : Hid (nextN t nw c = nw) := hide (by unfold nextN hid; rw [hd]; rfl)
    have HS1 := hide hS1
    have HG1 := hide hG1
    clear hS hS1 hC1 hG1
    go_enter Try.func90, Try.ntmps90
    go_wp2_with fail
    go_ret
    exact ⟨by rw [HE.out]; rfl, by rw [HN.out]; exact HS1.out, HG1.out⟩
  · have hd : decide (t < c.time) = false := by simpa using ht
    go_enter Try.func90, Try.ntmps90
    go_wp2_with fail
    refine (newestAt1_any t c nw (S + 2) _ hS1.s).mono ?_
    rintro e w2 ⟨rfl, hs2, hg2⟩
    have hC2 := hC1.grown hg2 (by simp; omega)
    have hW2 := hS1.wB.grown hg2 (by simp)
    have HS2 := hide (show StSt w2 S t wh (nextN t nw c) from ⟨hs2, hS1.tB.grown hg2 (by simp; omega), hW2, hS1.jB.grown hg2 (by simp)⟩)
    have HG2 := hide (gb_trans hG1 hg2)
    obtain ⟨c0, c1, c2, c3, c4⟩ := hC2.facts
    have b2 := hW2.cell 0
    simp at b2
    clear hS hS1 hC1 hG1 hs2 hg2 hC2 j0 hW2 t0 b0
    cases hq : hid t nw c <;> cases wh <;> cases hg : c.gone
    all_goals
      simp only [Bool.not_true, Bool.not_false]
      go_wp2_with fail
      go_ret
      exact ⟨by unfold stB; rw [hd, hq, hg]; rfl, HS2.out, HG2.out⟩

/-- What Compact leaves, behind one that hides. -/
def compGo (t : Int) (wh : Bool) : Cl → List Cl → List Cl
  | _, [] => []
  | nw, c :: r => if stB t wh nw c then c :: compGo t wh (nextN t nw c) r else compGo t wh (nextN t nw c) r

theorem compGo_hit {t : Int} {wh : Bool} {nw c : Cl} {r : List Cl} (h : stB t wh nw c = true) : compGo t wh nw (c :: r) = c :: compGo t wh (nextN t nw c) r := by simp only [compGo, h, if_true]
theorem compGo_miss {t : Int} {wh : Bool} {nw c : Cl} {r : List Cl} (h : stB t wh nw c = false) : compGo t wh nw (c :: r) = compGo t wh (nextN t nw c) r := by simp only [compGo, h, Bool.false_eq_true, if_false]

/-- What Compact answers. -/
def cmpR (ls : List (List Cl)) (t : Int) (wh : Bool) : List Cl × (Int × Int) :=
  if (jnR ls).2.1 ≠ 0 then ([], (jnR ls).2) else if isNumB t = false then ([], (3, -1)) else (compGo t wh zeroC (jnR ls).1, (0, 0))

theorem cmpR_bad {ls : List (List Cl)} {t : Int} {wh : Bool} (h : (jnR ls).2.1 ≠ 0) : cmpR ls t wh = ([], (jnR ls).2) := by rw [cmpR, if_pos h]
theorem cmpR_range {ls : List (List Cl)} {t : Int} {wh : Bool} (h : (jnR ls).2.1 = 0) (h2 : isNumB t = false) : cmpR ls t wh = ([], (3, -1)) := by rw [cmpR, if_neg (by omega), if_pos h2]
theorem cmpR_ok {ls : List (List Cl)} {t : Int} {wh : Bool} (h : (jnR ls).2.1 = 0) (h2 : isNumB t = true) : cmpR ls t wh = (compGo t wh zeroC (jnR ls).1, (0, 0)) := by rw [cmpR, if_neg (by omega), if_neg (by rw [h2]; decide)]

theorem jnR_zero {ls : List (List Cl)} (h : (jnR ls).2.1 = 0) : (lfR ls).1 = 0 ∧ (joinR ls).length ≤ 1000 ∧ jnR ls = (joinR ls, (0, 0)) := by
  by_cases h1 : (lfR ls).1 = 0
  · by_cases h2 : (joinR ls).length ≤ 1000
    · exact ⟨h1, h2, jnR_ok h1 h2⟩
    · rw [jnR_much h1 (by omega)] at h
      simp at h
  · rw [jnR_bad h1] at h
    exact absurd h h1

theorem At.belowC {w w' : World} {b off C : Nat} {c : Cl} (h : At w b off c) (hb : Below C w w') (hC : b < C) : At w' b off c :=
  ⟨(hb.cell (p := ⟨b, off, none⟩) hC).trans h.c0, (hb.cell (p := ⟨b, off + 1, none⟩) hC).trans h.c1, (hb.cell (p := ⟨b, off + 2, none⟩) hC).trans h.c2, (hb.cell (p := ⟨b, off + 3, none⟩) hC).trans h.c3, (hb.cell (p := ⟨b, off + 4, none⟩) hC).trans h.c4⟩

set_option maxRecDepth 100000 in
set_option maxHeartbeats 2000000 in
theorem Compact_any (v : Value) (ls : List (List Cl)) (t : Int) (wh : Bool) (w : World) (hv : RdL w v ls) :
    Calls Try.prog 12 #[v, .int .i64 t, .bool wh] w fun e w' => ∃ v', e = .returned (.tuple #[v', fltC (cmpR ls t wh).2]) ∧ RdC w' v' (cmpR ls t wh).1 ∧ Below w.heap.size w w' ∧ New w.heap.size v' := by
  obtain ⟨ao, cap, hvv, hc1, hc2⟩ := hv.shape
  subst hvv
  unfold maxLen at hc2
  go_enter Try.func12, Try.ntmps12
  go_wp2_with fail
  have hR0 := Bk.new w 28 #[.int .i64 0, .int .i64 0]
  refine (Join_any _ ls _ (hv.below (below_alloc' _ _))).mono ?_
  rintro e w1 ⟨v1, rfl, hr1, hb1, hn1⟩
  have hR1 := hR0.below hb1 (by simp)
  have hbw1 : Below w.heap.size w w1 := (below_alloc' _ _).trans (hb1.mono (by simp))
  have hsz1 := hR1.lt
  clear hb1 hR0 hn1
  obtain ⟨ao1, cap1, hv1, hd1, hd2⟩ := hr1.shape
  subst hv1
  by_cases hc : (jnR ls).2.1 = 0
  · obtain ⟨_, hl1000, hjn⟩ := jnR_zero hc
    have hfl : (jnR ls).2 = (0, 0) := by rw [hjn]
    have hcs : (jnR ls).1.length ≤ 1000 := by rw [hjn]; exact hl1000
    have r0 := hR1.cell 0
    have r1 := hR1.cell 1
    have r2 := hR1.frozen 0
    have r3 := hR1.frozen 1
    simp at r0 r1
    rw [hfl]
    cases hn : isNumB t
    · have HE := hide (@cmpR_range ls t wh hc hn)
      clear hc hjn hfl hl1000
      unfold fltC
      go_wp2_with (go_at_call 54; refine (isNum_any _ _).mono ?_; rintro e w' ⟨rfl, rfl⟩; rw [hn])
      exact bodyPost_ret (v := .tuple #[.slice none 0 0, fltC (3, -1)]) (by simp [results, Try.results12, go_sem, fltC, r0, r1, hsz1]) rfl ⟨_, by rw [HE.out], by rw [HE.out]; exact RdC.nil _, by go_grown, New.nil _⟩
    · have HE := hide (@cmpR_ok ls t wh hc hn)
      clear hc hjn hfl hl1000 r0 r1 r2 r3
      generalize (jnR ls).1 = cs at *
      unfold maxLen at hd2
      have HR := hide hr1
      have hRX := hR1.below (below_alloc' _ (.cells #[.int .i64 0, .int .i64 0] 28)) hsz1
      have hbX := hbw1.alloc (by omega) (.cells #[.int .i64 0, .int .i64 0] 28)
      clear hr1
      unfold fltC
      go_wp2_with (go_at_call 54; refine (isNum_any _ _).mono ?_; rintro e w' ⟨rfl, rfl⟩; rw [hn])
      refine (staysSince_any t wh _).mono ?_
      rintro e wA ⟨rfl, hSA, hbA, hzA⟩
      have hRA := hRX.below hbA hRX.lt
      have hbwA : Below w.heap.size w wA := hbX.trans (hbA.mono hbX.size)
      have hbA1 : Below w1.heap.size w1 wA := (below_alloc' _ _).trans (hbA.mono (by simp))
      have hz0 : (w1.alloc (.cells #[.int .i64 0, .int .i64 0] 28)).heap.size = w1.heap.size + 1 := by simp
      rw [hz0] at hSA hzA ⊢
      have hS0 : w.heap.size + 1 < w1.heap.size + 1 := by omega
      have HZA := hide hzA
      have hw1S : w1.heap.size < w1.heap.size + 1 := by omega
      clear hbA hRX hbX hz0 hR1 hbw1 hzA hsz1
      generalize w1.heap.size + 1 = S at hSA HZA hS0 hw1S ⊢
      unfold stF
      go_wp2_with fail
      go_loopw [11, 32] (fun o i wr => ∃ (k : Nat) (nw : Cl) (acc : List Cl), k ≤ cs.length ∧ i = .int .i64 k ∧ acc ++ compGo t wh nw (cs.drop k) = compGo t wh zeroC cs ∧ acc.length ≤ k ∧ StSt wr S t wh nw ∧ wr.ownsRow (S + 5) 91 5 o acc.length (cc acc) ∧ Below (S + 3) wA wr)
        (fun _ i _ => cs.length - (intOf i).toNat)
      case atStart => exact ⟨0, zeroC, [], by omega, rfl, rfl, by simp, hSA, World.ownsRow_nil _ _ _ _, Below.refl _ _⟩
      case round =>
        obtain ⟨k, nw, acc, hk, rfl, hgo, hacc, hS, hown, hbel⟩ := hrel
        have HG := hide hgo
        clear hgo
        have hszN := hS.lt
        obtain ⟨ao2, cap2, hv2⟩ := ownsC_shape hown
        subst hv2
        by_cases hlt : k < cs.length
        · obtain ⟨c, hck⟩ : ∃ c, cs[k]? = some c := ⟨_, List.getElem?_eq_getElem hlt⟩
          obtain ⟨bb, off, rfl, hb, hat⟩ := HR.out.hereD hck
          have hat2 : At wr bb (off + k * 5) c := (hat.below hbA1).belowC hbel (by omega)
          have hdr : cs.drop k = c :: cs.drop (k + 1) := by rw [List.drop_eq_getElem_cons hlt, (List.getElem?_eq_some_iff.1 hck).2]
          rw [hdr] at HG
          obtain ⟨c0, c1, c2, c3, c4⟩ := hat2
          have hk1 : (0 : Int) ≤ (k : Int) := by omega
          have hk2 : (k : Int) < (cs.length : Int) := by omega
          have hl8 : acc.length ≤ 100000000 := by omega
          have HS1 := hide (hS.below (below_alloc' wr (.cells #[.string c.row, .string c.col, .int .i64 c.time, .bool c.gone, .string c.val] 91)) hszN)
          have hO1 := hown.alloc (.cells #[.string c.row, .string c.col, .int .i64 c.time, .bool c.gone, .string c.val] 91)
          have hC1 : Bk (wr.alloc (.cells #[.string c.row, .string c.col, .int .i64 c.time, .bool c.gone, .string c.val] 91)) wr.heap.size 91 (ca c) := Bk.new _ _ _
          have HBE1 := hide (hbel.alloc (by omega) (.cells #[.string c.row, .string c.col, .int .i64 c.time, .bool c.gone, .string c.val] 91))
          have hS35 : S + 3 < S + 5 := by omega
          have hb7 : S + 5 ≤ (wr.alloc (.cells #[.string c.row, .string c.col, .int .i64 c.time, .bool c.gone, .string c.val] 91)).heap.size := by simp; omega
          have HC1 := hide hC1
          have HO1 := hide hO1
          clear hat hck hdr hC1 hO1
          cases hq : stB t wh nw c
          · have HM := hide (@compGo_miss t wh nw c (cs.drop (k + 1)) hq)
            go_wp2_with (go_at_call 90; refine (staysSince1_any t wh c nw S _ HS1.out).mono ?_; rintro e w3 ⟨rfl, hS3, hg3⟩; rw [hq])
            have ho3 := owns_grown HO1.out hg3 hS35
            have hbe3 : Below (S + 3) wA w3 := HBE1.out.grown hg3 (by have := HBE1.out.size; have := HZA.out; omega) (fun j hj => by simp at hj; omega)
            go_roundw
            case rel => exact ⟨k + 1, nextN t nw c, acc, by omega, by go_num, by rw [← HG.out, HM.out], by omega, hS3, ho3, hbe3⟩
            case measure => simp [intOf]; omega
          · have HM := hide (@compGo_hit t wh nw c (cs.drop (k + 1)) hq)
            go_wp2_with (first
              | (at_builtin; go_must (refine wpList_append_oneC (c := c) ho3 Try.underlying30 Try.info91 rfl rfl rfl rfl rfl hl8 (by decide) hb8 ?_); intro v4 w4 ho4 hb4 hg4)
              | (go_at_call 90; refine (staysSince1_any t wh c nw S _ HS1.out).mono ?_; rintro e w3 ⟨rfl, hS3, hg3⟩; rw [hq]; have hC3 := HC1.out.grown hg3 (by simp; omega); have ho3 := owns_grown HO1.out hg3 hS35; have hb8 := Nat.le_trans hb7 hg3.size; have hz3 := hg3.size; obtain ⟨p0, p1, p2, p3, p4⟩ := hC3.facts))
            have hbe3 : Below (S + 3) wA w3 := HBE1.out.grown hg3 (by have := HBE1.out.size; have := HZA.out; omega) (fun j hj => by simp at hj; omega)
            have hS4 := hS3.below hb4 (by omega)
            go_roundw
            case rel => exact ⟨k + 1, nextN t nw c, acc ++ [c], by omega, by go_num, by rw [← HG.out, HM.out]; simp, by simp; omega, hS4, by simpa using ho4, hbe3.trans (hb4.mono (by omega))⟩
            case measure => simp [intOf]; omega
        · rw [List.drop_eq_nil_of_le (by omega)] at HG
          have HF : Hid (compGo t wh zeroC cs = acc) := hide (by rw [← HG.out]; simp [compGo])
          have hRr := hRA.below hbel (by omega)
          have r0 := hRr.cell 0
          have r1 := hRr.cell 1
          have r2 := hRr.frozen 0
          have r3 := hRr.frozen 1
          have hsr := hRr.lt
          simp at r0 r1
          have hbw2 : Below w.heap.size w wr := hbwA.trans (hbel.mono (by omega))
          go_wp2_with fail
          exact bodyPost_ret (v := .tuple #[.slice ao2 acc.length cap2, fltC (0, 0)]) (by simp [results, Try.results12, go_sem, fltC, r0, r1]) rfl ⟨_, by rw [HE.out], by rw [HE.out, HF.out]; exact RdC.ofOwns (ownsRow_setCell_below (ownsRow_setCell_below hown (by simp only; omega) _) (by simp only; omega) _), by go_grown, (New.owns hown).mono (by omega)⟩
  · have HE := hide (@cmpR_bad ls t wh hc)
    have hcb : ((jnR ls).2.1 == 0) = false := beq_eq_false_iff_ne.2 hc
    have hcb2 : ((jnR ls).2.1 != 0) = true := by simp [hc]
    have r0 := hR1.cell 0
    have r1 := hR1.cell 1
    have r2 := hR1.frozen 0
    have r3 := hR1.frozen 1
    simp at r0 r1
    clear hc hr1
    generalize (jnR ls).2 = r at *
    obtain ⟨x, y⟩ := r
    simp only at hcb hcb2
    unfold fltC
    go_wp2_with fail
    go_region
    all_goals
      go_wp2_with fail
      exact bodyPost_ret (v := .tuple #[.slice none 0 0, fltC (x, y)]) (by simp [results, Try.results12, go_sem, fltC, r0, r1, hsz1]) rfl ⟨_, by rw [HE.out], by rw [HE.out]; exact RdC.nil _, by go_grown, New.nil _⟩

end Go.Proofs.Ytlebbkbbmgmmjad
