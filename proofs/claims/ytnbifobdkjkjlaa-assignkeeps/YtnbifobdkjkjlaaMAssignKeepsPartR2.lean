/-
  Texts joined: PartR2.
-/
import Derived.Test.YtnbifobdkjkjlaaMAssignKeepsPartR1
/-
  The walk over the document's PartsFault.
-/
namespace Go.Proofs.Ytnbifobdkjkjlaa
open Go.RowKit
set_option linter.unusedVariables false

theorem hasAhead_hit {l : List Pt} {i k : Nat} {q : Pt} {n : Int} (hk : k < i) (hq : l[k]? = some q) (h : q.id = n) : hasAhead l i n = true := by
  cases hb : hasAhead l i n
  · exact absurd h (hasAhead_false.1 hb k q hk hq)
  · rfl

theorem hasAhead_snoc {l : List Pt} {k : Nat} {q : Pt} {n : Int} (hq : l[k]? = some q) (h0 : hasAhead l k n = false) (h : q.id ≠ n) : hasAhead l (k + 1) n = false := by
  rw [hasAhead_false] at h0 ⊢
  intro j p hj hp
  by_cases e : j = k
  · subst e
    rw [hq] at hp
    cases hp
    exact h
  · exact h0 j p (by omega) hp

/-- The two tests of a part's ends, as the document's function spells them. -/
theorem codeP_five {l : List Pt} {i : Nat} {p : Pt} (hgd : l.getD i zeroPt = p) (h1 : ¬ 40 < p.fr.size) (h2 : ¬ 40 < p.to_.size) (h3 : numB p.id = true) (h : p.fr.toList ≠ (endA l i).toList ∨ endW l i = false) : codeP l i = 5 := by
  simp only [codeP, hgd]
  rw [if_neg (by omega), if_neg (by rw [h3]; decide), if_pos h]

theorem codeP_okk {l : List Pt} {i : Nat} {p : Pt} (hgd : l.getD i zeroPt = p) (h1 : ¬ 40 < p.fr.size) (h2 : ¬ 40 < p.to_.size) (h3 : numB p.id = true) (h4 : p.fr.toList = (endA l i).toList) (h5 : endW l i = true) : codeP l i = 0 := by
  simp only [codeP, hgd]
  rw [if_neg (by omega), if_neg (by rw [h3]; decide), if_neg (by simp [h4, h5])]

set_option maxRecDepth 100000 in
set_option maxHeartbeats 4000000 in
theorem PartsFault_any (v : Value) (l : List Pt) (w : World) (hv : RdG pE w v l) :
    Calls Try.prog 28 #[v] w fun e w' => e = .returned (flt (chkP l)) ∧ Below w.heap.size w w' := by
  obtain ⟨ao, cap, hvv, hc1, hc2⟩ := hv.shape
  subst hvv
  unfold maxLen at hc2
  have hF0 := Blk.new w 30 #[.int .i64 0, .int .i64 0]
  by_cases h0 : l.length = 0
  · have HE := hide (show chkP l = (6, -1) by simp [chkP, h0])
    have hl0 : ((l.length : Int) == 0) = true := by simp [h0]
    go_enter Try.func28, Try.ntmps28
    go_wp2_with fail
    refine (rF_any 6 (-1) _).mono ?_
    rintro e w1 ⟨rfl, hb1⟩
    have hF1 := hF0.later hb1
    have hbw1 : Below w.heap.size w w1 := (below_allocG _ _).trans (hb1.mono (by simp))
    have f0 := hF1.cell 0
    have f1 := hF1.cell 1
    have g0 := hF1.frozen 0
    have g1 := hF1.frozen 1
    have hfl := hF1.lt
    simp at f0 f1
    unfold flt
    go_wp2_with fail
    exact bodyPost_ret (v := flt (6, -1)) (by simp [results, Try.results28, go_sem, flt, f0, f1]) rfl ⟨by rw [HE.out], by go_grown⟩
  by_cases hbig : 200 < l.length
  · have HE := hide (show chkP l = (2, -1) by simp [chkP, h0, hbig])
    have hl0 : ((l.length : Int) == 0) = false := beq_eq_false_iff_ne.2 (by omega)
    go_enter Try.func28, Try.ntmps28
    go_wp2_with fail
    refine (rF_any 2 (-1) _).mono ?_
    rintro e w1 ⟨rfl, hb1⟩
    have hF1 := hF0.later hb1
    have hbw1 : Below w.heap.size w w1 := (below_allocG _ _).trans (hb1.mono (by simp))
    have f0 := hF1.cell 0
    have f1 := hF1.cell 1
    have g0 := hF1.frozen 0
    have g1 := hF1.frozen 1
    have hfl := hF1.lt
    simp at f0 f1
    unfold flt
    go_wp2_with fail
    exact bodyPost_ret (v := flt (2, -1)) (by simp [results, Try.results28, go_sem, flt, f0, f1]) rfl ⟨by rw [HE.out], by go_grown⟩
  have HF := hide (show chkP l = chkGo l l.length 0 by simp [chkP, h0, hbig])
  have hl0 : ((l.length : Int) == 0) = false := beq_eq_false_iff_ne.2 (by omega)
  clear h0
  go_enter Try.func28, Try.ntmps28
  go_wp2_with fail
  go_loopw [3] (fun i wr => ∃ k : Nat, k ≤ l.length ∧ i = .int .i64 k ∧ chkGo l (l.length - k) k = chkP l ∧ Blk wr w.heap.size 30 #[.int .i64 0, .int .i64 0] ∧ Below w.heap.size w wr)
    (fun i _ => l.length - (intOf i).toNat)
  case atStart => exact ⟨0, by omega, rfl, by rw [HF.out]; rfl, hF0, by go_grown⟩
  case round =>
    obtain ⟨k, hk, rfl, hgo, hblk, hbel⟩ := hrel
    have HG := hide hgo
    clear hgo HF hF0
    have f0 := hblk.cell 0
    have f1 := hblk.cell 1
    have g0 := hblk.frozen 0
    have g1 := hblk.frozen 1
    have hfl := hblk.lt
    simp at f0 f1
    by_cases hlt : k < l.length
    · obtain ⟨p, hp⟩ : ∃ p, l[k]? = some p := ⟨_, List.getElem?_eq_getElem hlt⟩
      obtain ⟨b, off, rfl, hb, hat⟩ := hv.here hp
      have hbr : b < wr.heap.size := Nat.lt_of_lt_of_le hb hbel.size
      obtain ⟨c0, c1, c2⟩ := (hat.below hbel).part
      have hk1 : (0 : Int) ≤ (k : Int) := by omega
      have hk2 : (k : Int) < (l.length : Int) := by omega
      have hgd : l.getD k zeroPt = p := by rw [List.getD_eq_getElem?_getD, hp]; rfl
      have HGD := hide hgd
      have HP := hide hp
      -- what a fault of this part comes to
      have HEND : Hid (∀ c : Int, codeP2 l k = c → c ≠ 0 → chkP l = (c, (k : Int))) := hide fun c hc h0 => by
        rw [← HG.out, show l.length - k = l.length - k - 1 + 1 by omega, chkGo_no (by rw [hc]; exact h0), hc]
      have hbA : Below w.heap.size w (wr.alloc (.cells #[.string p.fr, .string p.to_, .int .i64 p.id] 44)) := hbel.alloc hbel.size _
      have hFA : Blk (wr.alloc (.cells #[.string p.fr, .string p.to_, .int .i64 p.id] 44)) w.heap.size 30 #[.int .i64 0, .int .i64 0] := hblk.later (below_allocG _ _)
      have HBA := hide hbA
      have HFA := hide hFA
      clear hat hgd hp hbA hFA
      by_cases h1 : 40 < p.fr.size ∨ 40 < p.to_.size
      · have HE := hide (HEND.out 8 (by rw [codeP2_own] <;> simp only [codeP, HGD.out] <;> rw [if_pos h1]; decide) (by decide))
        by_cases h2 : 40 < p.fr.size
        all_goals
          go_wp2_with fail
          refine (rF_any 8 k _).mono ?_
          rintro e w1 ⟨rfl, hb1⟩
          have hF1 := HFA.out.later hb1
          have hbw1 : Below w.heap.size w w1 := HBA.out.trans (hb1.mono (by have := HBA.out.size; omega))
          have q0 := hF1.cell 0
          have q1 := hF1.cell 1
          have r0 := hF1.frozen 0
          have r1 := hF1.frozen 1
          have hfl1 := hF1.lt
          simp at q0 q1
          unfold flt
          go_wp2_with fail
          exact bodyPost_ret (v := flt (8, k)) (by simp [results, Try.results28, go_sem, flt, q0, q1]) rfl ⟨by rw [HE.out], by go_grown⟩
      · -- GEN
        have h2 : ¬ 40 < p.fr.size := fun h => h1 (.inl h)
        have h3 : ¬ 40 < p.to_.size := fun h => h1 (.inr h)
        cases h4 : numB p.id
        · have HE := hide (HEND.out 3 (by rw [codeP2_own] <;> simp only [codeP, HGD.out] <;> rw [if_neg h1, if_pos h4]; decide) (by decide))
          clear h1
          go_wp2_with (go_at_call 27; refine (rNum_any _ _).mono ?_; rintro e w' ⟨rfl, rfl⟩; rw [h4])

          refine (rF_any 3 k _).mono ?_
          rintro e w1 ⟨rfl, hb1⟩
          have hFq := HFA.out.below (w' := (wr.alloc (.cells #[.string p.fr, .string p.to_, .int .i64 p.id] 44))) (Below.refl _ _) HFA.out.lt
          have hF1 := hFq.later hb1
          have hbq : Below w.heap.size w ((wr.alloc (.cells #[.string p.fr, .string p.to_, .int .i64 p.id] 44))) := HBA.out
          have hbw1 : Below w.heap.size w w1 := hbq.trans (hb1.mono hbq.size)
          have q0 := hF1.cell 0
          have q1 := hF1.cell 1
          have r0 := hF1.frozen 0
          have r1 := hF1.frozen 1
          have hfl1 := hF1.lt
          simp at q0 q1
          unfold flt
          go_wp2_with fail
          exact bodyPost_ret (v := flt (3, k)) (by simp [results, Try.results28, go_sem, flt, q0, q1]) rfl ⟨by rw [HE.out], by go_grown⟩
        · clear h1
          by_cases hk0 : k = 0
          · have hkb : ((k : Int) == 0) = true := by simp [hk0]
            have hkc : decide (0 < (k : Int)) = false := decide_eq_false (by omega)
            have hkd : decide (0 < k) = false := decide_eq_false (by omega)
            have HEA0 := hide (show (endA l k).toList = [] by rw [hk0]; exact toList_empty)
            have q0 : True := trivial
            have q1 : True := trivial
            have q2 : True := trivial
            cases h5 : p.fr.toList.isEmpty
            · have HE := hide (HEND.out 5 (by rw [codeP2_own] <;> rw [codeP_five HGD.out h2 h3 h4 (.inl (by rw [HEA0.out]; intro h; rw [h] at h5; cases h5))]; decide) (by decide))
              clear hk0
              go_wp2_with (go_at_call 27; refine (rNum_any _ _).mono ?_; rintro e w' ⟨rfl, rfl⟩; rw [h4])
              go_quiet (fail)
              go_wp2_with fail
              refine (rF_any 5 k _).mono ?_
              rintro e w1 ⟨rfl, hb1⟩
              have hFq := HFA.out.below (w' := ((wr.alloc (.cells #[.string p.fr, .string p.to_, .int .i64 p.id] 44)).drewN nq)) (below_drewN (Below.refl _ _) _) HFA.out.lt
              have hF1 := hFq.later hb1
              have hbq : Below w.heap.size w (((wr.alloc (.cells #[.string p.fr, .string p.to_, .int .i64 p.id] 44)).drewN nq)) := below_drewN HBA.out _
              have hbw1 : Below w.heap.size w w1 := hbq.trans (hb1.mono hbq.size)
              have q0 := hF1.cell 0
              have q1 := hF1.cell 1
              have r0 := hF1.frozen 0
              have r1 := hF1.frozen 1
              have hfl1 := hF1.lt
              simp at q0 q1
              unfold flt
              go_wp2_with fail
              exact bodyPost_ret (v := flt (5, k)) (by simp [results, Try.results28, go_sem, flt, q0, q1]) rfl ⟨by rw [HE.out], by go_grown⟩
            · have HEA := hide (show p.fr.toList = (endA l k).toList by rw [HEA0.out]; simpa using h5)
              clear hk0 HEA0
              by_cases hlast : k + 1 = l.length
              · have hlb : ((k : Int) == (l.length : Int) - 1) = true := by simp; omega
                have hlc : decide ((k : Int) < (l.length : Int) - 1) = false := decide_eq_false (by omega)
                have HEW := hide (show endW l k = p.to_.toList.isEmpty by simp only [endW, HGD.out, if_pos hlast])
                cases h6 : p.to_.toList.isEmpty
                · have HE := hide (HEND.out 5 (by rw [codeP2_own] <;> rw [codeP_five HGD.out h2 h3 h4 (.inr (HEW.out.trans h6))]; decide) (by decide))
                  clear hlast
                  go_wp2_with (go_at_call 27; refine (rNum_any _ _).mono ?_; rintro e w' ⟨rfl, rfl⟩; rw [h4])
                  go_quiet (fail)
                  go_wp2_with fail
                  refine (rF_any 5 k _).mono ?_
                  rintro e w1 ⟨rfl, hb1⟩
                  have hFq := HFA.out.below (w' := ((wr.alloc (.cells #[.string p.fr, .string p.to_, .int .i64 p.id] 44)).drewN nq)) (below_drewN (Below.refl _ _) _) HFA.out.lt
                  have hF1 := hFq.later hb1
                  have hbq : Below w.heap.size w (((wr.alloc (.cells #[.string p.fr, .string p.to_, .int .i64 p.id] 44)).drewN nq)) := below_drewN HBA.out _
                  have hbw1 : Below w.heap.size w w1 := hbq.trans (hb1.mono hbq.size)
                  have q0 := hF1.cell 0
                  have q1 := hF1.cell 1
                  have r0 := hF1.frozen 0
                  have r1 := hF1.frozen 1
                  have hfl1 := hF1.lt
                  simp at q0 q1
                  unfold flt
                  go_wp2_with fail
                  exact bodyPost_ret (v := flt (5, k)) (by simp [results, Try.results28, go_sem, flt, q0, q1]) rfl ⟨by rw [HE.out], by go_grown⟩
                · have HCZ := hide (codeP_okk HGD.out h2 h3 h4 HEA.out (HEW.out.trans h6))
                  clear hlast
                  go_wp2_with (go_at_call 27; refine (rNum_any _ _).mono ?_; rintro e w' ⟨rfl, rfl⟩; rw [h4])
                  go_quiet (fail)
                  go_wp2_with fail
                  have hbq : Below w.heap.size w ((wr.alloc (.cells #[.string p.fr, .string p.to_, .int .i64 p.id] 44)).drewN nq) := below_drewN HBA.out _
                  have hFq : Blk ((wr.alloc (.cells #[.string p.fr, .string p.to_, .int .i64 p.id] 44)).drewN nq) w.heap.size 30 #[.int .i64 0, .int .i64 0] := HFA.out
                  have hPq : Blk ((wr.alloc (.cells #[.string p.fr, .string p.to_, .int .i64 p.id] 44)).drewN nq) wr.heap.size 44 #[.string p.fr, .string p.to_, .int .i64 p.id] := Blk.new wr _ _
                  have hsq := hbel.size
                  obtain ⟨PB, hPB⟩ : ∃ n, n = wr.heap.size := ⟨_, rfl⟩
                  rw [← hPB] at hPq ⊢
                  have hPW : w.heap.size ≤ PB := by omega
                  have hPW2 : w.heap.size ≠ PB := by omega
                  generalize ((wr.alloc (.cells #[.string p.fr, .string p.to_, .int .i64 p.id] 44)).drewN nq) = wA at *
                  clear c0 c1 c2 f0 f1 g0 g1 hblk hPB q0 q1 q2
                  obtain ⟨wL, hwL⟩ : ∃ wL, wL = wr := ⟨_, rfl⟩
                  subst hwL
                  go_loopw [5] (fun i wr => ∃ j : Nat, j ≤ k ∧ i = .int .i64 j ∧ hasAhead l j p.id = false ∧ Blk wr PB 44 #[.string p.fr, .string p.to_, .int .i64 p.id] ∧ Blk wr w.heap.size 30 #[.int .i64 0, .int .i64 0] ∧ Below w.heap.size w wr)
                    (fun i _ => k - (intOf i).toNat)
                  case atStart => exact ⟨0, by omega, rfl, by simp [hasAhead], hPq, hFq, hbq⟩
                  case round =>
                    obtain ⟨j, hj, rfl, hah, hPj, hFj, hbj⟩ := hrel
                    have HAH := hide hah
                    have pl := hPj.lt
                    have p2 := hPj.cell 2
                    have f0 := hFj.cell 0
                    have f1 := hFj.cell 1
                    have g0 := hFj.frozen 0
                    have g1 := hFj.frozen 1
                    have hfl := hFj.lt
                    simp at p2 f0 f1
                    clear hah
                    by_cases hlt2 : j < k
                    · obtain ⟨x, hx⟩ : ∃ p, l[j]? = some p := ⟨_, List.getElem?_eq_getElem (by omega)⟩
                      obtain ⟨b2, off2, hbe, _, hat2⟩ := hv.here hx
                      simp only [Option.some.injEq, Addr.mk.injEq, and_true] at hbe
                      obtain ⟨rfl, rfl⟩ := hbe
                      obtain ⟨d0, d1, d2⟩ := (hat2.below hbj).part
                      have hj1 : (0 : Int) ≤ (j : Int) := by omega
                      have hj2 : (j : Int) < (l.length : Int) := by omega
                      have hj3 : (j : Int) < (k : Int) := by omega
                      have hbj2 : b < wr.heap.size := (hat2.below hbj).lt
                      have HX := hide hx
                      clear hat2 hx
                      cases hid : (x.id == p.id)
                      · have HS := hide (hasAhead_snoc HX.out HAH.out (by simpa using hid))
                        go_wp2_with fail
                        go_quiet (fail)
                        go_wp2_with fail
                        go_roundw
                        case rel => exact ⟨j + 1, by omega, by go_num, HS.out, hPj, hFj, below_drewN hbj _⟩
                        case measure => simp [intOf]; omega
                      · have HE := hide (HEND.out 10 (codeP2_twice HCZ.out (by rw [HGD.out]; exact hasAhead_hit hlt2 HX.out (by simpa using hid))) (by decide))
                        go_wp2_with fail
                        go_quiet (fail)
                        go_wp2_with fail
                        refine (rF_any 10 k _).mono ?_
                        rintro e w1 ⟨rfl, hb1⟩
                        have hF1 : Blk w1 w.heap.size 30 #[.int .i64 0, .int .i64 0] := Blk.later (w := wr.drewN nq) hFj hb1
                        have hbw1 : Below w.heap.size w w1 := (below_drewN hbj nq).trans (hb1.mono hbj.size)
                        have q0 := hF1.cell 0
                        have q1 := hF1.cell 1
                        have r0 := hF1.frozen 0
                        have r1 := hF1.frozen 1
                        have hfl1 := hF1.lt
                        simp at q0 q1
                        unfold flt
                        go_wp2_with fail
                        exact bodyPost_ret (v := flt (10, k)) (by simp [results, Try.results28, go_sem, flt, q0, q1]) rfl ⟨by rw [HE.out], by go_grown⟩
                    · have hje : j = k := by omega
                      subst hje
                      have HE := hide (chkGo_ok (n := l.length - j - 1) (codeP2_ok HCZ.out (by rw [HGD.out]; exact HAH.out)))
                      go_wp2_with fail
                      go_roundw
                      case rel => exact ⟨j + 1, by omega, by go_num, by rw [← HG.out, show l.length - j = l.length - j - 1 + 1 by omega, HE.out]; congr 1, hFj, hbj⟩
                      case measure => simp [intOf]; omega
              · have hlb : ((k : Int) == (l.length : Int) - 1) = false := beq_eq_false_iff_ne.2 (by omega)
                have hlc : decide ((k : Int) < (l.length : Int) - 1) = true := decide_eq_true (by omega)
                have HEW := hide (show endW l k = !(Op.bytesLess p.to_.toList p.fr.toList || (p.to_.toList == p.fr.toList)) by rw [Bool.not_or, gtS]; simp only [endW, HGD.out, if_neg hlast])
                cases h6 : Op.bytesLess p.to_.toList p.fr.toList
                · cases h7 : (p.to_.toList == p.fr.toList)
                  · have HCZ := hide (codeP_okk HGD.out h2 h3 h4 HEA.out (HEW.out.trans (by rw [h6, h7]; rfl)))
                    clear hlast
                    go_wp2_with (go_at_call 27; refine (rNum_any _ _).mono ?_; rintro e w' ⟨rfl, rfl⟩; rw [h4])
                    go_quiet (fail)
                    go_wp2_with fail
                    have hbq : Below w.heap.size w ((wr.alloc (.cells #[.string p.fr, .string p.to_, .int .i64 p.id] 44)).drewN nq) := below_drewN HBA.out _
                    have hFq : Blk ((wr.alloc (.cells #[.string p.fr, .string p.to_, .int .i64 p.id] 44)).drewN nq) w.heap.size 30 #[.int .i64 0, .int .i64 0] := HFA.out
                    have hPq : Blk ((wr.alloc (.cells #[.string p.fr, .string p.to_, .int .i64 p.id] 44)).drewN nq) wr.heap.size 44 #[.string p.fr, .string p.to_, .int .i64 p.id] := Blk.new wr _ _
                    have hsq := hbel.size
                    obtain ⟨PB, hPB⟩ : ∃ n, n = wr.heap.size := ⟨_, rfl⟩
                    rw [← hPB] at hPq ⊢
                    have hPW : w.heap.size ≤ PB := by omega
                    have hPW2 : w.heap.size ≠ PB := by omega
                    generalize ((wr.alloc (.cells #[.string p.fr, .string p.to_, .int .i64 p.id] 44)).drewN nq) = wA at *
                    clear c0 c1 c2 f0 f1 g0 g1 hblk hPB q0 q1 q2
                    obtain ⟨wL, hwL⟩ : ∃ wL, wL = wr := ⟨_, rfl⟩
                    subst hwL
                    go_loopw [5] (fun i wr => ∃ j : Nat, j ≤ k ∧ i = .int .i64 j ∧ hasAhead l j p.id = false ∧ Blk wr PB 44 #[.string p.fr, .string p.to_, .int .i64 p.id] ∧ Blk wr w.heap.size 30 #[.int .i64 0, .int .i64 0] ∧ Below w.heap.size w wr)
                      (fun i _ => k - (intOf i).toNat)
                    case atStart => exact ⟨0, by omega, rfl, by simp [hasAhead], hPq, hFq, hbq⟩
                    case round =>
                      obtain ⟨j, hj, rfl, hah, hPj, hFj, hbj⟩ := hrel
                      have HAH := hide hah
                      have pl := hPj.lt
                      have p2 := hPj.cell 2
                      have f0 := hFj.cell 0
                      have f1 := hFj.cell 1
                      have g0 := hFj.frozen 0
                      have g1 := hFj.frozen 1
                      have hfl := hFj.lt
                      simp at p2 f0 f1
                      clear hah
                      by_cases hlt2 : j < k
                      · obtain ⟨x, hx⟩ : ∃ p, l[j]? = some p := ⟨_, List.getElem?_eq_getElem (by omega)⟩
                        obtain ⟨b2, off2, hbe, _, hat2⟩ := hv.here hx
                        simp only [Option.some.injEq, Addr.mk.injEq, and_true] at hbe
                        obtain ⟨rfl, rfl⟩ := hbe
                        obtain ⟨d0, d1, d2⟩ := (hat2.below hbj).part
                        have hj1 : (0 : Int) ≤ (j : Int) := by omega
                        have hj2 : (j : Int) < (l.length : Int) := by omega
                        have hj3 : (j : Int) < (k : Int) := by omega
                        have hbj2 : b < wr.heap.size := (hat2.below hbj).lt
                        have HX := hide hx
                        clear hat2 hx
                        cases hid : (x.id == p.id)
                        · have HS := hide (hasAhead_snoc HX.out HAH.out (by simpa using hid))
                          go_wp2_with fail
                          go_quiet (fail)
                          go_wp2_with fail
                          go_roundw
                          case rel => exact ⟨j + 1, by omega, by go_num, HS.out, hPj, hFj, below_drewN hbj _⟩
                          case measure => simp [intOf]; omega
                        · have HE := hide (HEND.out 10 (codeP2_twice HCZ.out (by rw [HGD.out]; exact hasAhead_hit hlt2 HX.out (by simpa using hid))) (by decide))
                          go_wp2_with fail
                          go_quiet (fail)
                          go_wp2_with fail
                          refine (rF_any 10 k _).mono ?_
                          rintro e w1 ⟨rfl, hb1⟩
                          have hF1 : Blk w1 w.heap.size 30 #[.int .i64 0, .int .i64 0] := Blk.later (w := wr.drewN nq) hFj hb1
                          have hbw1 : Below w.heap.size w w1 := (below_drewN hbj nq).trans (hb1.mono hbj.size)
                          have q0 := hF1.cell 0
                          have q1 := hF1.cell 1
                          have r0 := hF1.frozen 0
                          have r1 := hF1.frozen 1
                          have hfl1 := hF1.lt
                          simp at q0 q1
                          unfold flt
                          go_wp2_with fail
                          exact bodyPost_ret (v := flt (10, k)) (by simp [results, Try.results28, go_sem, flt, q0, q1]) rfl ⟨by rw [HE.out], by go_grown⟩
                      · have hje : j = k := by omega
                        subst hje
                        have HE := hide (chkGo_ok (n := l.length - j - 1) (codeP2_ok HCZ.out (by rw [HGD.out]; exact HAH.out)))
                        go_wp2_with fail
                        go_roundw
                        case rel => exact ⟨j + 1, by omega, by go_num, by rw [← HG.out, show l.length - j = l.length - j - 1 + 1 by omega, HE.out]; congr 1, hFj, hbj⟩
                        case measure => simp [intOf]; omega
                  · have HE := hide (HEND.out 5 (by rw [codeP2_own] <;> rw [codeP_five HGD.out h2 h3 h4 (.inr (HEW.out.trans (by rw [h6, h7]; rfl)))]; decide) (by decide))
                    clear hlast
                    go_wp2_with (go_at_call 27; refine (rNum_any _ _).mono ?_; rintro e w' ⟨rfl, rfl⟩; rw [h4])
                    go_quiet (fail)
                    go_wp2_with fail
                    refine (rF_any 5 k _).mono ?_
                    rintro e w1 ⟨rfl, hb1⟩
                    have hFq := HFA.out.below (w' := ((wr.alloc (.cells #[.string p.fr, .string p.to_, .int .i64 p.id] 44)).drewN nq)) (below_drewN (Below.refl _ _) _) HFA.out.lt
                    have hF1 := hFq.later hb1
                    have hbq : Below w.heap.size w (((wr.alloc (.cells #[.string p.fr, .string p.to_, .int .i64 p.id] 44)).drewN nq)) := below_drewN HBA.out _
                    have hbw1 : Below w.heap.size w w1 := hbq.trans (hb1.mono hbq.size)
                    have q0 := hF1.cell 0
                    have q1 := hF1.cell 1
                    have r0 := hF1.frozen 0
                    have r1 := hF1.frozen 1
                    have hfl1 := hF1.lt
                    simp at q0 q1
                    unfold flt
                    go_wp2_with fail
                    exact bodyPost_ret (v := flt (5, k)) (by simp [results, Try.results28, go_sem, flt, q0, q1]) rfl ⟨by rw [HE.out], by go_grown⟩
                · have HE := hide (HEND.out 5 (by rw [codeP2_own] <;> rw [codeP_five HGD.out h2 h3 h4 (.inr (HEW.out.trans (by rw [h6]; rfl)))]; decide) (by decide))
                  clear hlast
                  go_wp2_with (go_at_call 27; refine (rNum_any _ _).mono ?_; rintro e w' ⟨rfl, rfl⟩; rw [h4])
                  go_quiet (fail)
                  go_wp2_with fail
                  refine (rF_any 5 k _).mono ?_
                  rintro e w1 ⟨rfl, hb1⟩
                  have hFq := HFA.out.below (w' := ((wr.alloc (.cells #[.string p.fr, .string p.to_, .int .i64 p.id] 44)).drewN nq)) (below_drewN (Below.refl _ _) _) HFA.out.lt
                  have hF1 := hFq.later hb1
                  have hbq : Below w.heap.size w (((wr.alloc (.cells #[.string p.fr, .string p.to_, .int .i64 p.id] 44)).drewN nq)) := below_drewN HBA.out _
                  have hbw1 : Below w.heap.size w w1 := hbq.trans (hb1.mono hbq.size)
                  have q0 := hF1.cell 0
                  have q1 := hF1.cell 1
                  have r0 := hF1.frozen 0
                  have r1 := hF1.frozen 1
                  have hfl1 := hF1.lt
                  simp at q0 q1
                  unfold flt
                  go_wp2_with fail
                  exact bodyPost_ret (v := flt (5, k)) (by simp [results, Try.results28, go_sem, flt, q0, q1]) rfl ⟨by rw [HE.out], by go_grown⟩
          · obtain ⟨jj, hjj⟩ : ∃ j, k = j + 1 := ⟨k - 1, by omega⟩
            obtain ⟨y, hy⟩ : ∃ p, l[jj]? = some p := ⟨_, List.getElem?_eq_getElem (by omega)⟩
            obtain ⟨b2, off2, hbe, _, hat2⟩ := hv.here hy
            simp only [Option.some.injEq, Addr.mk.injEq, and_true] at hbe
            obtain ⟨rfl, rfl⟩ := hbe
            obtain ⟨q0, q1, q2⟩ := (hat2.below hbel).part
            have hkb : ((k : Int) == 0) = false := beq_eq_false_iff_ne.2 (by omega)
            have hkc : decide (0 < (k : Int)) = true := decide_eq_true (by omega)
            have hkd : decide (0 < k) = true := decide_eq_true (by omega)
            have hwr : IntKind.i64.wrap ((k : Int) - 1) = (jj : Int) := by rw [IntKind.wrap_i64]; omega
            have hjj1 : (0 : Int) ≤ (jj : Int) := by omega
            have hjj2 : (jj : Int) < (l.length : Int) := by omega
            have HEA0 := hide (show endA l k = y.to_ by rw [hjj]; simp only [endA, List.getD_eq_getElem?_getD, hy]; rfl)
            clear hjj hat2 hy
            cases h5 : (p.fr.toList == y.to_.toList)
            · have HE := hide (HEND.out 5 (by rw [codeP2_own] <;> rw [codeP_five HGD.out h2 h3 h4 (.inl (by rw [HEA0.out]; simpa using h5))]; decide) (by decide))
              clear hk0
              go_wp2_with (go_at_call 27; refine (rNum_any _ _).mono ?_; rintro e w' ⟨rfl, rfl⟩; rw [h4])
              go_quiet (fail)
              go_wp2_with fail
              refine (rF_any 5 k _).mono ?_
              rintro e w1 ⟨rfl, hb1⟩
              have hFq := HFA.out.below (w' := ((wr.alloc (.cells #[.string p.fr, .string p.to_, .int .i64 p.id] 44)).drewN nq)) (below_drewN (Below.refl _ _) _) HFA.out.lt
              have hF1 := hFq.later hb1
              have hbq : Below w.heap.size w (((wr.alloc (.cells #[.string p.fr, .string p.to_, .int .i64 p.id] 44)).drewN nq)) := below_drewN HBA.out _
              have hbw1 : Below w.heap.size w w1 := hbq.trans (hb1.mono hbq.size)
              have q0 := hF1.cell 0
              have q1 := hF1.cell 1
              have r0 := hF1.frozen 0
              have r1 := hF1.frozen 1
              have hfl1 := hF1.lt
              simp at q0 q1
              unfold flt
              go_wp2_with fail
              exact bodyPost_ret (v := flt (5, k)) (by simp [results, Try.results28, go_sem, flt, q0, q1]) rfl ⟨by rw [HE.out], by go_grown⟩
            · have HEA := hide (show p.fr.toList = (endA l k).toList by rw [HEA0.out]; simpa using h5)
              clear hk0 HEA0
              by_cases hlast : k + 1 = l.length
              · have hlb : ((k : Int) == (l.length : Int) - 1) = true := by simp; omega
                have hlc : decide ((k : Int) < (l.length : Int) - 1) = false := decide_eq_false (by omega)
                have HEW := hide (show endW l k = p.to_.toList.isEmpty by simp only [endW, HGD.out, if_pos hlast])
                cases h6 : p.to_.toList.isEmpty
                · have HE := hide (HEND.out 5 (by rw [codeP2_own] <;> rw [codeP_five HGD.out h2 h3 h4 (.inr (HEW.out.trans h6))]; decide) (by decide))
                  clear hlast
                  go_wp2_with (go_at_call 27; refine (rNum_any _ _).mono ?_; rintro e w' ⟨rfl, rfl⟩; rw [h4])
                  go_quiet (fail)
                  go_wp2_with fail
                  refine (rF_any 5 k _).mono ?_
                  rintro e w1 ⟨rfl, hb1⟩
                  have hFq := HFA.out.below (w' := ((wr.alloc (.cells #[.string p.fr, .string p.to_, .int .i64 p.id] 44)).drewN nq)) (below_drewN (Below.refl _ _) _) HFA.out.lt
                  have hF1 := hFq.later hb1
                  have hbq : Below w.heap.size w (((wr.alloc (.cells #[.string p.fr, .string p.to_, .int .i64 p.id] 44)).drewN nq)) := below_drewN HBA.out _
                  have hbw1 : Below w.heap.size w w1 := hbq.trans (hb1.mono hbq.size)
                  have q0 := hF1.cell 0
                  have q1 := hF1.cell 1
                  have r0 := hF1.frozen 0
                  have r1 := hF1.frozen 1
                  have hfl1 := hF1.lt
                  simp at q0 q1
                  unfold flt
                  go_wp2_with fail
                  exact bodyPost_ret (v := flt (5, k)) (by simp [results, Try.results28, go_sem, flt, q0, q1]) rfl ⟨by rw [HE.out], by go_grown⟩
                · have HCZ := hide (codeP_okk HGD.out h2 h3 h4 HEA.out (HEW.out.trans h6))
                  clear hlast
                  go_wp2_with (go_at_call 27; refine (rNum_any _ _).mono ?_; rintro e w' ⟨rfl, rfl⟩; rw [h4])
                  go_quiet (fail)
                  go_wp2_with fail
                  have hbq : Below w.heap.size w ((wr.alloc (.cells #[.string p.fr, .string p.to_, .int .i64 p.id] 44)).drewN nq) := below_drewN HBA.out _
                  have hFq : Blk ((wr.alloc (.cells #[.string p.fr, .string p.to_, .int .i64 p.id] 44)).drewN nq) w.heap.size 30 #[.int .i64 0, .int .i64 0] := HFA.out
                  have hPq : Blk ((wr.alloc (.cells #[.string p.fr, .string p.to_, .int .i64 p.id] 44)).drewN nq) wr.heap.size 44 #[.string p.fr, .string p.to_, .int .i64 p.id] := Blk.new wr _ _
                  have hsq := hbel.size
                  obtain ⟨PB, hPB⟩ : ∃ n, n = wr.heap.size := ⟨_, rfl⟩
                  rw [← hPB] at hPq ⊢
                  have hPW : w.heap.size ≤ PB := by omega
                  have hPW2 : w.heap.size ≠ PB := by omega
                  generalize ((wr.alloc (.cells #[.string p.fr, .string p.to_, .int .i64 p.id] 44)).drewN nq) = wA at *
                  clear c0 c1 c2 f0 f1 g0 g1 hblk hPB q0 q1 q2
                  obtain ⟨wL, hwL⟩ : ∃ wL, wL = wr := ⟨_, rfl⟩
                  subst hwL
                  go_loopw [5] (fun i wr => ∃ j : Nat, j ≤ k ∧ i = .int .i64 j ∧ hasAhead l j p.id = false ∧ Blk wr PB 44 #[.string p.fr, .string p.to_, .int .i64 p.id] ∧ Blk wr w.heap.size 30 #[.int .i64 0, .int .i64 0] ∧ Below w.heap.size w wr)
                    (fun i _ => k - (intOf i).toNat)
                  case atStart => exact ⟨0, by omega, rfl, by simp [hasAhead], hPq, hFq, hbq⟩
                  case round =>
                    obtain ⟨j, hj, rfl, hah, hPj, hFj, hbj⟩ := hrel
                    have HAH := hide hah
                    have pl := hPj.lt
                    have p2 := hPj.cell 2
                    have f0 := hFj.cell 0
                    have f1 := hFj.cell 1
                    have g0 := hFj.frozen 0
                    have g1 := hFj.frozen 1
                    have hfl := hFj.lt
                    simp at p2 f0 f1
                    clear hah
                    by_cases hlt2 : j < k
                    · obtain ⟨x, hx⟩ : ∃ p, l[j]? = some p := ⟨_, List.getElem?_eq_getElem (by omega)⟩
                      obtain ⟨b2, off2, hbe, _, hat2⟩ := hv.here hx
                      simp only [Option.some.injEq, Addr.mk.injEq, and_true] at hbe
                      obtain ⟨rfl, rfl⟩ := hbe
                      obtain ⟨d0, d1, d2⟩ := (hat2.below hbj).part
                      have hj1 : (0 : Int) ≤ (j : Int) := by omega
                      have hj2 : (j : Int) < (l.length : Int) := by omega
                      have hj3 : (j : Int) < (k : Int) := by omega
                      have hbj2 : b < wr.heap.size := (hat2.below hbj).lt
                      have HX := hide hx
                      clear hat2 hx
                      cases hid : (x.id == p.id)
                      · have HS := hide (hasAhead_snoc HX.out HAH.out (by simpa using hid))
                        go_wp2_with fail
                        go_quiet (fail)
                        go_wp2_with fail
                        go_roundw
                        case rel => exact ⟨j + 1, by omega, by go_num, HS.out, hPj, hFj, below_drewN hbj _⟩
                        case measure => simp [intOf]; omega
                      · have HE := hide (HEND.out 10 (codeP2_twice HCZ.out (by rw [HGD.out]; exact hasAhead_hit hlt2 HX.out (by simpa using hid))) (by decide))
                        go_wp2_with fail
                        go_quiet (fail)
                        go_wp2_with fail
                        refine (rF_any 10 k _).mono ?_
                        rintro e w1 ⟨rfl, hb1⟩
                        have hF1 : Blk w1 w.heap.size 30 #[.int .i64 0, .int .i64 0] := Blk.later (w := wr.drewN nq) hFj hb1
                        have hbw1 : Below w.heap.size w w1 := (below_drewN hbj nq).trans (hb1.mono hbj.size)
                        have q0 := hF1.cell 0
                        have q1 := hF1.cell 1
                        have r0 := hF1.frozen 0
                        have r1 := hF1.frozen 1
                        have hfl1 := hF1.lt
                        simp at q0 q1
                        unfold flt
                        go_wp2_with fail
                        exact bodyPost_ret (v := flt (10, k)) (by simp [results, Try.results28, go_sem, flt, q0, q1]) rfl ⟨by rw [HE.out], by go_grown⟩
                    · have hje : j = k := by omega
                      subst hje
                      have HE := hide (chkGo_ok (n := l.length - j - 1) (codeP2_ok HCZ.out (by rw [HGD.out]; exact HAH.out)))
                      go_wp2_with fail
                      go_roundw
                      case rel => exact ⟨j + 1, by omega, by go_num, by rw [← HG.out, show l.length - j = l.length - j - 1 + 1 by omega, HE.out]; congr 1, hFj, hbj⟩
                      case measure => simp [intOf]; omega
              · have hlb : ((k : Int) == (l.length : Int) - 1) = false := beq_eq_false_iff_ne.2 (by omega)
                have hlc : decide ((k : Int) < (l.length : Int) - 1) = true := decide_eq_true (by omega)
                have HEW := hide (show endW l k = !(Op.bytesLess p.to_.toList p.fr.toList || (p.to_.toList == p.fr.toList)) by rw [Bool.not_or, gtS]; simp only [endW, HGD.out, if_neg hlast])
                cases h6 : Op.bytesLess p.to_.toList p.fr.toList
                · cases h7 : (p.to_.toList == p.fr.toList)
                  · have HCZ := hide (codeP_okk HGD.out h2 h3 h4 HEA.out (HEW.out.trans (by rw [h6, h7]; rfl)))
                    clear hlast
                    go_wp2_with (go_at_call 27; refine (rNum_any _ _).mono ?_; rintro e w' ⟨rfl, rfl⟩; rw [h4])
                    go_quiet (fail)
                    go_wp2_with fail
                    have hbq : Below w.heap.size w ((wr.alloc (.cells #[.string p.fr, .string p.to_, .int .i64 p.id] 44)).drewN nq) := below_drewN HBA.out _
                    have hFq : Blk ((wr.alloc (.cells #[.string p.fr, .string p.to_, .int .i64 p.id] 44)).drewN nq) w.heap.size 30 #[.int .i64 0, .int .i64 0] := HFA.out
                    have hPq : Blk ((wr.alloc (.cells #[.string p.fr, .string p.to_, .int .i64 p.id] 44)).drewN nq) wr.heap.size 44 #[.string p.fr, .string p.to_, .int .i64 p.id] := Blk.new wr _ _
                    have hsq := hbel.size
                    obtain ⟨PB, hPB⟩ : ∃ n, n = wr.heap.size := ⟨_, rfl⟩
                    rw [← hPB] at hPq ⊢
                    have hPW : w.heap.size ≤ PB := by omega
                    have hPW2 : w.heap.size ≠ PB := by omega
                    generalize ((wr.alloc (.cells #[.string p.fr, .string p.to_, .int .i64 p.id] 44)).drewN nq) = wA at *
                    clear c0 c1 c2 f0 f1 g0 g1 hblk hPB q0 q1 q2
                    obtain ⟨wL, hwL⟩ : ∃ wL, wL = wr := ⟨_, rfl⟩
                    subst hwL
                    go_loopw [5] (fun i wr => ∃ j : Nat, j ≤ k ∧ i = .int .i64 j ∧ hasAhead l j p.id = false ∧ Blk wr PB 44 #[.string p.fr, .string p.to_, .int .i64 p.id] ∧ Blk wr w.heap.size 30 #[.int .i64 0, .int .i64 0] ∧ Below w.heap.size w wr)
                      (fun i _ => k - (intOf i).toNat)
                    case atStart => exact ⟨0, by omega, rfl, by simp [hasAhead], hPq, hFq, hbq⟩
                    case round =>
                      obtain ⟨j, hj, rfl, hah, hPj, hFj, hbj⟩ := hrel
                      have HAH := hide hah
                      have pl := hPj.lt
                      have p2 := hPj.cell 2
                      have f0 := hFj.cell 0
                      have f1 := hFj.cell 1
                      have g0 := hFj.frozen 0
                      have g1 := hFj.frozen 1
                      have hfl := hFj.lt
                      simp at p2 f0 f1
                      clear hah
                      by_cases hlt2 : j < k
                      · obtain ⟨x, hx⟩ : ∃ p, l[j]? = some p := ⟨_, List.getElem?_eq_getElem (by omega)⟩
                        obtain ⟨b2, off2, hbe, _, hat2⟩ := hv.here hx
                        simp only [Option.some.injEq, Addr.mk.injEq, and_true] at hbe
                        obtain ⟨rfl, rfl⟩ := hbe
                        obtain ⟨d0, d1, d2⟩ := (hat2.below hbj).part
                        have hj1 : (0 : Int) ≤ (j : Int) := by omega
                        have hj2 : (j : Int) < (l.length : Int) := by omega
                        have hj3 : (j : Int) < (k : Int) := by omega
                        have hbj2 : b < wr.heap.size := (hat2.below hbj).lt
                        have HX := hide hx
                        clear hat2 hx
                        cases hid : (x.id == p.id)
                        · have HS := hide (hasAhead_snoc HX.out HAH.out (by simpa using hid))
                          go_wp2_with fail
                          go_quiet (fail)
                          go_wp2_with fail
                          go_roundw
                          case rel => exact ⟨j + 1, by omega, by go_num, HS.out, hPj, hFj, below_drewN hbj _⟩
                          case measure => simp [intOf]; omega
                        · have HE := hide (HEND.out 10 (codeP2_twice HCZ.out (by rw [HGD.out]; exact hasAhead_hit hlt2 HX.out (by simpa using hid))) (by decide))
                          go_wp2_with fail
                          go_quiet (fail)
                          go_wp2_with fail
                          refine (rF_any 10 k _).mono ?_
                          rintro e w1 ⟨rfl, hb1⟩
                          have hF1 : Blk w1 w.heap.size 30 #[.int .i64 0, .int .i64 0] := Blk.later (w := wr.drewN nq) hFj hb1
                          have hbw1 : Below w.heap.size w w1 := (below_drewN hbj nq).trans (hb1.mono hbj.size)
                          have q0 := hF1.cell 0
                          have q1 := hF1.cell 1
                          have r0 := hF1.frozen 0
                          have r1 := hF1.frozen 1
                          have hfl1 := hF1.lt
                          simp at q0 q1
                          unfold flt
                          go_wp2_with fail
                          exact bodyPost_ret (v := flt (10, k)) (by simp [results, Try.results28, go_sem, flt, q0, q1]) rfl ⟨by rw [HE.out], by go_grown⟩
                      · have hje : j = k := by omega
                        subst hje
                        have HE := hide (chkGo_ok (n := l.length - j - 1) (codeP2_ok HCZ.out (by rw [HGD.out]; exact HAH.out)))
                        go_wp2_with fail
                        go_roundw
                        case rel => exact ⟨j + 1, by omega, by go_num, by rw [← HG.out, show l.length - j = l.length - j - 1 + 1 by omega, HE.out]; congr 1, hFj, hbj⟩
                        case measure => simp [intOf]; omega
                  · have HE := hide (HEND.out 5 (by rw [codeP2_own] <;> rw [codeP_five HGD.out h2 h3 h4 (.inr (HEW.out.trans (by rw [h6, h7]; rfl)))]; decide) (by decide))
                    clear hlast
                    go_wp2_with (go_at_call 27; refine (rNum_any _ _).mono ?_; rintro e w' ⟨rfl, rfl⟩; rw [h4])
                    go_quiet (fail)
                    go_wp2_with fail
                    refine (rF_any 5 k _).mono ?_
                    rintro e w1 ⟨rfl, hb1⟩
                    have hFq := HFA.out.below (w' := ((wr.alloc (.cells #[.string p.fr, .string p.to_, .int .i64 p.id] 44)).drewN nq)) (below_drewN (Below.refl _ _) _) HFA.out.lt
                    have hF1 := hFq.later hb1
                    have hbq : Below w.heap.size w (((wr.alloc (.cells #[.string p.fr, .string p.to_, .int .i64 p.id] 44)).drewN nq)) := below_drewN HBA.out _
                    have hbw1 : Below w.heap.size w w1 := hbq.trans (hb1.mono hbq.size)
                    have q0 := hF1.cell 0
                    have q1 := hF1.cell 1
                    have r0 := hF1.frozen 0
                    have r1 := hF1.frozen 1
                    have hfl1 := hF1.lt
                    simp at q0 q1
                    unfold flt
                    go_wp2_with fail
                    exact bodyPost_ret (v := flt (5, k)) (by simp [results, Try.results28, go_sem, flt, q0, q1]) rfl ⟨by rw [HE.out], by go_grown⟩
                · have HE := hide (HEND.out 5 (by rw [codeP2_own] <;> rw [codeP_five HGD.out h2 h3 h4 (.inr (HEW.out.trans (by rw [h6]; rfl)))]; decide) (by decide))
                  clear hlast
                  go_wp2_with (go_at_call 27; refine (rNum_any _ _).mono ?_; rintro e w' ⟨rfl, rfl⟩; rw [h4])
                  go_quiet (fail)
                  go_wp2_with fail
                  refine (rF_any 5 k _).mono ?_
                  rintro e w1 ⟨rfl, hb1⟩
                  have hFq := HFA.out.below (w' := ((wr.alloc (.cells #[.string p.fr, .string p.to_, .int .i64 p.id] 44)).drewN nq)) (below_drewN (Below.refl _ _) _) HFA.out.lt
                  have hF1 := hFq.later hb1
                  have hbq : Below w.heap.size w (((wr.alloc (.cells #[.string p.fr, .string p.to_, .int .i64 p.id] 44)).drewN nq)) := below_drewN HBA.out _
                  have hbw1 : Below w.heap.size w w1 := hbq.trans (hb1.mono hbq.size)
                  have q0 := hF1.cell 0
                  have q1 := hF1.cell 1
                  have r0 := hF1.frozen 0
                  have r1 := hF1.frozen 1
                  have hfl1 := hF1.lt
                  simp at q0 q1
                  unfold flt
                  go_wp2_with fail
                  exact bodyPost_ret (v := flt (5, k)) (by simp [results, Try.results28, go_sem, flt, q0, q1]) rfl ⟨by rw [HE.out], by go_grown⟩
    · have hz : l.length - k = 0 := by omega
      rw [hz] at HG
      go_wp2_with fail
      exact bodyPost_ret (v := flt (0, 0)) (by simp [results, Try.results28, go_sem, flt, f0, f1]) rfl ⟨by rw [← HG.out]; rfl, by go_grown⟩

end Go.Proofs.Ytnbifobdkjkjlaa
