/-
  The law WireBack: its walk.
-/
import Derived.Test.YtlebbkbbmgmmjaaWireMath2
import Derived.Test.YtlebbkbbmgmmjaaRefW1
import Derived.Deep.DeepCutAuto
namespace Go.Proofs.Ytlebbkbbmgmmjaa
open Go.RowKit

theorem Rd.lit (w : World) (cs : Array Value) (e : TypeId) (h : cs.size ≤ 1000) : Rd (w.alloc (.cells cs e)) (.slice (some ⟨w.heap.size, 0, none⟩) cs.size cs.size) cs.toList :=
  Rd.ofOwns (World.ownsRow_lit (base := 0) (size := 1) w cs cs.size (Nat.zero_le _) (by simp [maxLen]; omega) (by simp))

set_option maxRecDepth 100000 in
set_option maxHeartbeats 400000 in
theorem wireBegun_any (w : World) : Calls Try.prog 9 #[] w fun e w' => e = .returned (.bool true) ∧ Below w.heap.size w w' := by
  have hN : numsR [5, 300] = ([5, 172, 2], 0, 0) := by decide
  go_enter Try.func9, Try.ntmps9
  go_wp2_with fail
  refine (Nums_any _ [5, 300] _ (Rd.lit w #[.int .i64 5, .int .i64 300] 3 (by decide))).mono ?_
  rintro e w1 ⟨v1, rfl, hrd, hb, _⟩
  rw [hN] at hrd ⊢
  simp only [flt]
  go_wp2_with fail
  have hl := Rd.lit (w1.alloc (.cells #[.int .i64 0, .int .i64 0] 26)) #[.int .u8 5, .int .u8 172, .int .u8 2] 5 (by decide)
  have hl2 : Rd ((w1.alloc (.cells #[.int .i64 0, .int .i64 0] 26)).alloc (.cells #[.int .u8 5, .int .u8 172, .int .u8 2] 5)) (.slice (some ⟨w1.heap.size + 1, 0, none⟩) 3 3) (bc [5, 172, 2]) := by simpa [bc] using hl
  have hr2 := (hrd.alloc (.cells #[.int .i64 0, .int .i64 0] 26)).alloc (.cells #[.int .u8 5, .int .u8 172, .int .u8 2] 5)
  refine (Same_any _ _ [5, 172, 2] [5, 172, 2] _ hr2 hl2).mono ?_
  rintro e w2 ⟨rfl, rfl⟩
  go_wp2_with fail
  go_ret
  have hb' := ((Below.refl _ _).alloc (Nat.le_refl _) _).trans (hb.mono (show w.heap.size ≤ _ by simp))
  have hs := hb'.size
  exact ⟨rfl, by go_grown⟩

/-- The variable f of the law: a block of its own. -/
def Fv (w : World) (F : Nat) : Prop := ∃ x y, w.heap[F]? = some (.cells #[x, y] 26 (0, 0))
theorem Fv.facts {w : World} {F : Nat} (h : Fv w F) : ∃ x y, w.cell? ⟨F, 0, none⟩ = some x ∧ w.cell? ⟨F, 1, none⟩ = some y ∧ w.frozen? ⟨F, 0, none⟩ = false ∧ w.frozen? ⟨F, 1, none⟩ = false ∧ F < w.heap.size := by
  obtain ⟨x, y, h⟩ := h
  refine ⟨x, y, ?_, ?_, frozen_of_row _ _ _ _ _ h, frozen_of_row _ _ _ _ _ h, (Array.getElem?_eq_some_iff.1 h).1⟩
  · rw [cell_of_row _ _ _ _ _ _ h]; rfl
  · rw [cell_of_row _ _ _ _ _ _ h]; rfl

theorem Fv.below {w w' : World} {F : Nat} (h : Fv w F) (hb : Below w.heap.size w w') : Fv w' F := by
  obtain ⟨x, y, h⟩ := h
  exact ⟨x, y, by rw [hb.block _ (Array.getElem?_eq_some_iff.1 h).1]; exact h⟩

theorem Fv.set {w : World} {F : Nat} (h : Fv w F) (u v : Value) : Fv ((w.setCell ⟨F, 0, none⟩ u).setCell ⟨F, 1, none⟩ v) F := by
  obtain ⟨x, y, h⟩ := h
  refine ⟨u, v, ?_⟩
  rw [heap_setCell_same _ F 1 #[u, y] _ v]
  · rfl
  · rw [heap_setCell_same _ F 0 _ _ u h]
    rfl

theorem Fv.new (w : World) (x y : Value) : Fv (w.alloc (.cells #[x, y] 26)) w.heap.size := ⟨x, y, heap_alloc_new _ _⟩

set_option maxRecDepth 100000 in
set_option maxHeartbeats 400000 in
theorem wireBack_any (u v x : Value) (zs : List Int) (ss : List (List UInt8)) (bs : List UInt8) (w : World) (h1 : Rd w u (ic zs)) (h2 : Rd w v (sc ss)) (h3 : Rd w x (bc bs)) (hss : ∀ s ∈ ss, s.length ≤ 140737488351232) :
    Calls Try.prog 6 #[u, v, x] w fun e w' => e = .returned (.bool true) ∧ Below w.heap.size w w' := by
  have HSS := hide hss
  clear hss
  go_enter Try.func6, Try.ntmps6
  go_wp2_with fail
  refine (wireBegun_any w).mono ?_
  rintro e w1 ⟨rfl, hb1⟩
  have h1a := h1.below hb1
  go_wp2_with fail
  refine (Nums_any _ zs _ h1a).mono ?_
  rintro e w2 ⟨v2, rfl, hr2, hb2, _⟩
  simp only [flt]
  have hbw : Below w.heap.size w w2 := hb1.trans (hb2.mono hb1.size)
  have hsz2 := hbw.size
  have e1 := @nums_there zs
  generalize numsR zs = N at hr2 e1 ⊢
  obtain ⟨nb, nc, na⟩ := N
  have HE := hide e1
  clear e1
  simp only at hr2 ⊢
  go_upto_if 29 with fail
  go_cut [] (fun wc => Below w.heap.size w wc ∧ Fv wc w2.heap.size)
  case first =>
    by_cases hc : nc = 0
    · have hcb : (nc == 0) = true := beq_iff_eq.2 hc
      have e1 := HE.out hc
      simp only at e1
      have HE1 := hide e1
      clear hc e1
      go_wp2_with fail
      refine (ReadNums_any _ nb _ (hr2.alloc _)).mono ?_
      rintro e w3 ⟨v3, rfl, hr3, hb3, _⟩
      rw [HE1.out] at hr3 ⊢
      simp only [flt]
      have hb3w : Below w.heap.size w w3 := (hbw.alloc hsz2 _).trans (hb3.mono (by simp; omega))
      have hsz3 := hb3.size
      simp only [World.size_alloc] at hsz3
      go_wp2_with fail
      refine (Ints_any _ _ zs zs _ (hr3.alloc _) ((h1.below hb3w).alloc _)).mono ?_
      rintro e w4 ⟨rfl, q, rfl⟩
      rw [beq_self_eq_true]
      go_wp2_with fail
      go_meet
      case rel => exact ⟨below_drewN (by go_grown) q, ((Fv.new _ _ _).below hb3).below (below_drewN ((Below.refl _ _).alloc (Nat.le_refl _) _) q)⟩
    · have hcb : (nc == 0) = false := beq_eq_false_iff_ne.2 hc
      clear hc
      go_wp2_with fail
      go_meet
      case rel => exact ⟨by go_grown, Fv.new _ _ _⟩
  case rest =>
    clear hr2 HE hb1 hb2 h1a hbw
    obtain ⟨hbw, hF⟩ := hcut
    have h2a := h2.below hbw
    have hszc := hbw.size
    rename World => wA
    go_wp2_with fail
    refine (Texts_any _ ss _ h2a HSS.out).mono ?_
    rintro e w3 ⟨v3, rfl, hr3, hb3, hn3⟩
    have hb3w : Below w.heap.size w w3 := hbw.trans (hb3.mono hszc)
    have hF3 := hF.below hb3
    have hFA : w2.heap.size < wA.heap.size := hF.facts.elim fun _ h => h.elim fun _ h => h.2.2.2.2
    obtain ⟨x0, y0, hc0, hc1, hf0, hf1, hFs⟩ := hF3.facts
    have e1 := @texts_there ss
    generalize textsR ss = N at hr3 e1 ⊢
    obtain ⟨nb, nc, na⟩ := N
    have HE := hide e1
    clear e1
    simp only [flt] at hr3 ⊢
    go_upto_if 51 with fail
    go_cut [] (fun wc => Below w.heap.size w wc ∧ Fv wc w2.heap.size)
    case first =>
      by_cases hc : nc = 0
      · have hcb : (nc == 0) = true := beq_iff_eq.2 hc
        have e1 := HE.out hc
        simp only at e1
        have HE1 := hide e1
        clear hc e1
        go_wp2_with fail
        refine (ReadTexts_any _ nb _ ((hr3.setNew hn3 (p := ⟨w2.heap.size, 0, none⟩) hFA _).setNew hn3 (p := ⟨w2.heap.size, 1, none⟩) hFA _)).mono ?_
        rintro e w4 ⟨v4, rfl, hr4, hb4, _⟩
        rw [HE1.out] at hr4 ⊢
        simp only [flt]
        have hb4w : Below w.heap.size w w4 := ((hb3w.setCell (p := ⟨w2.heap.size, 0, none⟩) hsz2 _).setCell (p := ⟨w2.heap.size, 1, none⟩) hsz2 _).trans (hb4.mono (by simp; omega))
        have hsz4 := hb4w.size
        have hF4 := (hF3.set _ _).below hb4
        go_wp2_with fail
        refine (SameTexts_any _ _ ss ss _ (hr4.alloc _) ((h2.below hb4w).alloc _)).mono ?_
        rintro e w5 ⟨rfl, q, rfl⟩
        rw [beq_self_eq_true]
        go_wp2_with fail
        go_meet
        case rel => exact ⟨below_drewN (by go_grown) q, hF4.below (below_drewN ((Below.refl _ _).alloc (Nat.le_refl _) _) q)⟩
      · have hcb : (nc == 0) = false := beq_eq_false_iff_ne.2 hc
        clear hc
        go_wp2_with fail
        go_meet
        case rel => exact ⟨by go_grown, hF3.set _ _⟩
    case rest =>
      clear hr3 HE hb3 h2a hbw hF hF3 hb3w hc0 hc1 hf0 hf1 hszc
      obtain ⟨hbw, hF⟩ := hcut
      have h3a := h3.below hbw
      have hszc := hbw.size
      rename World => wB
      go_wp2_with fail
      refine (ReadNums_any _ bs _ h3a).mono ?_
      rintro e w4 ⟨v4, rfl, hr4, hb4, hn4⟩
      have hb4w : Below w.heap.size w w4 := hbw.trans (hb4.mono hszc)
      have hF4 := hF.below hb4
      have hFB : w2.heap.size < wB.heap.size := hF.facts.elim fun _ h => h.elim fun _ h => h.2.2.2.2
      obtain ⟨x1, y1, hc0, hc1, hf0, hf1, hFs⟩ := hF4.facts
      have e1 := @nums_back bs
      generalize readNumsR bs = N at hr4 e1 ⊢
      obtain ⟨nb, nc, na⟩ := N
      have HE := hide e1
      clear e1
      simp only [flt] at hr4 ⊢
      go_upto_if 73 with fail
      go_cut [] (fun wc => Below w.heap.size w wc ∧ Fv wc w2.heap.size)
      case first =>
        by_cases hc : nc = 0
        · have hcb : (nc == 0) = true := beq_iff_eq.2 hc
          have e1 := HE.out hc
          simp only at e1
          have HE1 := hide e1
          clear hc e1
          go_wp2_with fail
          refine (Nums_any _ nb _ ((hr4.setNew hn4 (p := ⟨w2.heap.size, 0, none⟩) hFB _).setNew hn4 (p := ⟨w2.heap.size, 1, none⟩) hFB _)).mono ?_
          rintro e w5 ⟨v5, rfl, hr5, hb5, _⟩
          rw [HE1.out] at hr5 ⊢
          simp only [flt]
          have hb5w : Below w.heap.size w w5 := ((hb4w.setCell (p := ⟨w2.heap.size, 0, none⟩) hsz2 _).setCell (p := ⟨w2.heap.size, 1, none⟩) hsz2 _).trans (hb5.mono (by simp; omega))
          have hsz5 := hb5w.size
          have hF5 := (hF4.set _ _).below hb5
          go_wp2_with fail
          refine (Same_any _ _ bs bs _ (hr5.alloc _) ((h3.below hb5w).alloc _)).mono ?_
          rintro e w6 ⟨rfl, rfl⟩
          rw [beq_self_eq_true]
          go_wp2_with fail
          go_meet
          case rel => exact ⟨by go_grown, hF5.below ((Below.refl _ _).alloc (Nat.le_refl _) _)⟩
        · have hcb : (nc == 0) = false := beq_eq_false_iff_ne.2 hc
          clear hc
          go_wp2_with fail
          go_meet
          case rel => exact ⟨by go_grown, hF4.set _ _⟩
      case rest =>
        clear hr4 HE hb4 h3a hbw hF hF4 hb4w hc0 hc1 hf0 hf1 hszc
        obtain ⟨hbw, hF⟩ := hcut
        have h3a := h3.below hbw
        have hszc := hbw.size
        rename World => wC
        go_wp2_with fail
        refine (ReadTexts_any _ bs _ h3a).mono ?_
        rintro e w5 ⟨v5, rfl, hr5, hb5, hn5⟩
        have hb5w : Below w.heap.size w w5 := hbw.trans (hb5.mono hszc)
        have hF5 := hF.below hb5
        have hFC : w2.heap.size < wC.heap.size := hF.facts.elim fun _ h => h.elim fun _ h => h.2.2.2.2
        obtain ⟨x1, y1, hc0, hc1, hf0, hf1, hFs⟩ := hF5.facts
        have e1 := @texts_back bs
        generalize readTextsR bs = N at hr5 e1 ⊢
        obtain ⟨nb, nc, na⟩ := N
        have HE := hide e1
        clear e1
        simp only [flt] at hr5 ⊢
        by_cases hc : nc = 0
        · have hcb : (nc != 0) = false := by simp [hc]
          have e1 := HE.out hc
          simp only at e1
          have HE1 := hide e1
          clear hc e1
          go_wp2_with fail
          refine (Texts_any _ nb _ ((hr5.setNew hn5 (p := ⟨w2.heap.size, 0, none⟩) hFC _).setNew hn5 (p := ⟨w2.heap.size, 1, none⟩) hFC _) (fun s hs => by have := HE1.out.2 s hs; omega)).mono ?_
          rintro e w6 ⟨v6, rfl, hr6, hb6, _⟩
          rw [HE1.out.1] at hr6 ⊢
          simp only [flt]
          have hb6w : Below w.heap.size w w6 := ((hb5w.setCell (p := ⟨w2.heap.size, 0, none⟩) hsz2 _).setCell (p := ⟨w2.heap.size, 1, none⟩) hsz2 _).trans (hb6.mono (by simp; omega))
          have hsz6 := hb6w.size
          go_wp2_with fail
          refine (Same_any _ _ bs bs _ (hr6.alloc _) ((h3.below hb6w).alloc _)).mono ?_
          rintro e w7 ⟨rfl, rfl⟩
          rw [beq_self_eq_true]
          go_wp2_with fail
          go_ret
          exact ⟨rfl, by go_grown⟩
        · have hcb : (nc != 0) = true := by simp [hc]
          clear hc
          go_wp2_with fail
          go_ret
          exact ⟨rfl, by go_grown⟩

end Go.Proofs.Ytlebbkbbmgmmjaa
