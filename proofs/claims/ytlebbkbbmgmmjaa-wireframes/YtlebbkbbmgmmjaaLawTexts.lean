/-
  The law WireTexts: its walk.
-/
import Derived.Test.YtlebbkbbmgmmjaaRefT
import Derived.Deep.RegionLaw
namespace Go.Proofs.Ytlebbkbbmgmmjaa
open Go.RowKit

def lsum : List (List UInt8) → Nat
  | [] => 0
  | s :: ss => s.length + lsum ss

theorem lsum_append : ∀ (a b : List (List UInt8)), lsum (a ++ b) = lsum a + lsum b
  | [], b => by simp [lsum]
  | s :: a, b => by simp [lsum, lsum_append a b, Nat.add_assoc]

theorem lsum_snoc (ss : List (List UInt8)) (k : Nat) (h : k < ss.length) : lsum (ss.take (k + 1)) = lsum (ss.take k) + ss[k].length := by
  rw [List.take_succ_eq_append_getElem h, lsum_append]
  simp [lsum]

theorem lsum_mem : ∀ {ss : List (List UInt8)} {s : List UInt8}, s ∈ ss → s.length ≤ lsum ss
  | t :: ss, s, h => by
    rcases List.mem_cons.1 h with rfl | h
    · simp only [lsum]; omega
    · have := lsum_mem h; simp only [lsum]; omega

theorem tflat_le : ∀ (ss : List (List UInt8)), (tflat ss).length ≤ lsum ss + 10 * ss.length
  | [] => by simp [tflat]
  | s :: ss => by
    have := tflat_le ss
    have h1 := encN_length s.length
    rw [tflat_cons]
    simp only [lsum, List.length_append, List.length_cons]
    omega

theorem tflat_snoc (ss : List (List UInt8)) (k : Nat) (h : k < ss.length) : tflat (ss.take (k + 1)) = tflat (ss.take k) ++ (encN ss[k].length ++ ss[k]) := by
  rw [List.take_succ_eq_append_getElem h]
  simp only [tflat, List.flatMap_append, List.flatMap_cons, List.flatMap_nil, List.append_nil]

theorem tflat_take (ss : List (List UInt8)) (k : Nat) : (tflat (ss.take k)).length ≤ (tflat ss).length := by
  have e : tflat ss = tflat (ss.take k) ++ tflat (ss.drop k) := by
    conv => lhs; rw [← List.take_append_drop k ss]
    simp only [tflat, List.flatMap_append]
  rw [e, List.length_append]
  omega

theorem textsR_big {ss : List (List UInt8)} (h : 1000 < ss.length) : textsR ss = ([], 2, 0) := by rw [textsR, if_pos h]
theorem textsR_much {ss : List (List UInt8)} (h : ¬ 1000 < ss.length) (h2 : 60000 < (tflat ss).length) : textsR ss = ([], 9, 0) := by
  rw [textsR, if_neg h, textsGo_much ss [] (by simp) (by simpa using h2)]

theorem textsR_ok {ss : List (List UInt8)} (h : ¬ 1000 < ss.length) (h2 : ¬ 60000 < (tflat ss).length) : textsR ss = (tflat ss, 0, 0) := by
  rw [textsR, if_neg h, textsGo_of ss [] (by simp; omega)]
  simp

theorem rdt_ref : ∀ (f : Nat) (bs : List UInt8) (acc : List (List UInt8)), bs.length ≤ f →
    rdTexts (f + 1) bs acc = if 0 ≤ (refTexts (f + 1) bs acc).2 then ([], 5, (refTexts (f + 1) bs acc).2) else if 1000 < (refTexts (f + 1) bs acc).1.length then ([], 2, 0) else ((refTexts (f + 1) bs acc).1, 0, 0)
  | f, [], acc, _ => by
    rw [refTexts_end]
    by_cases h : 1000 < acc.length
    · rw [rdTexts_many h]; simp [h]
    · rw [rdTexts_end (by omega)]; simp [h]
  | 0, b :: bs, acc, hf => by simp at hf
  | f + 1, b :: bs, acc, hf => by
    cases hn : textAt (b :: bs) with
    | none =>
      rw [rdTexts_bad (by simp) hn, refTexts_bad (by simp) hn]
      simp
    | some p =>
      obtain ⟨t, k⟩ := p
      have hl := textAt_back hn
      rw [rdTexts_step (by simp) hn, refTexts_step (by simp) hn]
      exact rdt_ref f _ _ (by rw [List.length_drop]; omega)

theorem readTexts_ref {bs : List UInt8} (h : ¬ 60000 < bs.length) :
    readTextsR bs = if 0 ≤ (refTexts (bs.length + 1) bs []).2 then ([], 5, (refTexts (bs.length + 1) bs []).2) else if 1000 < (refTexts (bs.length + 1) bs []).1.length then ([], 2, 0) else ((refTexts (bs.length + 1) bs []).1, 0, 0) := by
  rw [readTextsR, if_neg h]
  exact rdt_ref _ _ _ (Nat.le_refl _)

theorem readTexts_big {bs : List UInt8} (h : 60000 < bs.length) : readTextsR bs = ([], 8, 0) := by rw [readTextsR, if_pos h]

/-- A block of one cell. -/
def Ob (w : World) (B : Nat) (t : TypeId) (v : Value) : Prop := w.heap[B]? = some (.cells #[v] t (0, 0))
theorem Ob.facts {w : World} {B : Nat} {t : TypeId} {v : Value} (h : Ob w B t v) : w.cell? ⟨B, 0, none⟩ = some v ∧ w.frozen? ⟨B, 0, none⟩ = false ∧ B < w.heap.size := by
  refine ⟨?_, frozen_of_row _ _ _ _ _ h, (Array.getElem?_eq_some_iff.1 h).1⟩
  rw [cell_of_row _ _ _ _ _ _ h]; rfl

theorem Ob.below {w w' : World} {B : Nat} {t : TypeId} {v : Value} (h : Ob w B t v) (hb : Below w.heap.size w w') : Ob w' B t v := by
  unfold Ob
  rw [hb.block _ h.facts.2.2]
  exact h

theorem Ob.new (w : World) (t : TypeId) (v : Value) : Ob (w.alloc (.cells #[v] t)) w.heap.size t v := heap_alloc_new _ _
theorem Ob.set {w : World} {B : Nat} {t : TypeId} {v : Value} (h : Ob w B t v) (u : Value) : Ob (w.setCell ⟨B, 0, none⟩ u) B t u := by
  unfold Ob
  rw [heap_setCell_same _ B 0 _ _ u h]
  rfl

set_option maxRecDepth 100000 in
set_option maxHeartbeats 1000000 in
theorem wireTexts_any (u x : Value) (ss : List (List UInt8)) (bs : List UInt8) (w : World) (h1 : Rd w u (sc ss)) (h2 : Rd w x (bc bs)) (hss : ∀ s ∈ ss, s.length ≤ 140737488351232) :
    Calls Try.prog 4 #[u, x] w fun e w' => e = .returned (.bool true) ∧ Below w.heap.size w w' := by
  obtain ⟨ao, cap, hu, hc1, hc2, hcell⟩ := h1.open
  obtain ⟨bo, cbp, hx, hd1, hd2, _⟩ := h2.open
  rw [sc_length] at hc1 hu hcell
  rw [bc_length] at hd1 hx
  subst hu hx
  unfold maxLen at hc2 hd2
  have HSS := hide hss
  clear hss
  go_enter Try.func4, Try.ntmps4
  go_wp2_with fail
  refine (wireBegun_any _).mono ?_
  rintro e w1 ⟨rfl, hbw1⟩
  have hsz1 := hbw1.size
  by_cases hg1 : 3000 < ss.length
  · go_wp2_with fail
    go_ret
    exact ⟨rfl, hbw1⟩
  by_cases hg2 : 100000 < bs.length
  · go_wp2_with fail
    go_ret
    exact ⟨rfl, hbw1⟩
  go_wp2_with fail
  go_loop [5, 6] (fun n i => ∃ k : Nat, k ≤ ss.length ∧ i = .int .i64 k ∧ n = .int .i64 (lsum (ss.take k)) ∧ lsum (ss.take k) ≤ k * 140737488351232) (fun _ i => ss.length - (intOf i).toNat)
  case atStart => exact ⟨0, by omega, rfl, rfl, by simp [lsum]⟩
  case round =>
    obtain ⟨k, hk, rfl, rfl, hls⟩ := hrel
    by_cases hlt : k < ss.length
    · obtain ⟨b, off, rfl, hb, hcl⟩ := hcell k hlt
      have hl0 := HSS.out ss[k] (List.getElem_mem hlt)
      have hsn := lsum_snoc ss k hlt
      have hck : w1.cell? ⟨b, off + k, none⟩ = some (.string ⟨ss[k].toArray⟩) := by
        rw [hbw1.cell (by exact hb)]
        exact hcl k _ (by simp [sc, hlt])
      clear hcell hcl
      generalize ss[k] = s at *
      generalize lsum (ss.take k) = L at *
      have HS := hide hsn
      clear hsn
      have hL : (L : Int) ≤ 422212465053696000 := by omega
      go_wp2_with fail
      go_round
      case rel => exact ⟨k + 1, by omega, by go_num, by rw [HS.out]; go_num, by rw [HS.out]; omega⟩
      case measure => simp [intOf]; omega
    · obtain rfl : k = ss.length := by omega
      rw [List.take_length] at hls ⊢
      by_cases hsm : 300000 < lsum ss
      · go_wp2_with fail
        go_ret
        exact ⟨rfl, hbw1⟩
      go_wp2_with (at_builtin; go_must (refine wpList_append_rd (World.ownsRow_nil w1 w1.heap.size 9 1) (h1.below hbw1) Try.underlying41 Try.info9 rfl rfl rfl rfl rfl (sc_one _) (by rw [sc_length]; omega) (by decide) (Nat.le_refl _) ?_); intro v2 w2 ho2 hb2 hg2; clear hg2)
      have hr2 : Rd w2 v2 (sc ss) := Rd.ofOwns ho2
      refine (Texts_any _ ss _ hr2 HSS.out).mono ?_
      rintro e w3 ⟨v3, rfl, hr3, hb3, hn3⟩
      have hb3' : Below w1.heap.size w1 w3 := hb2.trans (hb3.mono hb2.size)
      have hbw3 : Below w.heap.size w w3 := hbw1.trans (hb3'.mono (by omega))
      have hsz3 := hb3'.size
      generalize hN : textsR ss = N at hr3 ⊢
      obtain ⟨nb, nc, na⟩ := N
      have HN := hide hN
      clear hN hb2 hr2 hb3 hb3' ho2
      simp only [flt] at hr3 ⊢
      go_wp2_with fail
      have hbA : Below w3.heap.size w3 (w3.alloc (.cells #[.int .i64 nc, .int .i64 na] 26)) := (Below.refl _ _).alloc (Nat.le_refl _) _
      refine (ownBytes_any _ bs _ ((h2.below hbw3).alloc _) (by omega)).mono ?_
      rintro e w4 ⟨v4, rfl, hr4, hb4, _⟩
      go_wp2_with fail
      refine (ReadTexts_any _ bs _ hr4).mono ?_
      rintro e w5 ⟨v5, rfl, hr5, hb5, hn5⟩
      have hsz4 := hb4.size
      have hsz5 := hb5.size
      simp only [World.size_alloc] at hsz4
      have hb5' : Below (w3.alloc (.cells #[.int .i64 nc, .int .i64 na] 26)).heap.size (w3.alloc (.cells #[.int .i64 nc, .int .i64 na] 26)) w5 := hb4.trans (hb5.mono hb4.size)
      have hX5 := (Fb.new w3 nc na).below hb5'
      have hb53 : Below w3.heap.size w3 w5 := hbA.trans (hb5'.mono (by simp))
      have hr35 := hr3.below hb53
      have hbw5 : Below w.heap.size w w5 := hbw3.trans (hb53.mono (by omega))
      generalize hM : readTextsR bs = M at hr5 ⊢
      obtain ⟨rb, rc, ra⟩ := M
      have HM := hide hM
      have hXs : w3.heap.size < w5.heap.size := by omega
      clear hM hb4 hr4 hb5 hb5' hr3 hb53
      simp only [flt] at hr5 ⊢
      go_upto_block 2 with fail
      have hA0 := Ob.new (w5.alloc (.cells #[.int .i64 rc, .int .i64 ra] 26)) 23 (.slice none 0 0)
      simp only [World.size_alloc] at hA0
      have hbB : Below w5.heap.size w5 ((w5.alloc (.cells #[.int .i64 rc, .int .i64 ra] 26)).alloc (.cells #[.slice none 0 0] 23)) := ((Below.refl _ _).alloc (Nat.le_refl _) _).alloc (by simp) _
      have hGB : Fb ((w5.alloc (.cells #[.int .i64 rc, .int .i64 ra] 26)).alloc (.cells #[.slice none 0 0] 23)) w5.heap.size rc ra := (Fb.new w5 rc ra).below ((Below.refl _ _).alloc (Nat.le_refl _) _)
      have hr35lt := hr35.lt
      have hr5lt := hr5.lt
      have hXB := hX5.below hbB
      have hr3B := hr35.below hbB
      have hr5B := hr5.below hbB
      have hbwB := hbw5.trans (hbB.mono (by omega))
      have hszB : ((w5.alloc (.cells #[.int .i64 rc, .int .i64 ra] 26)).alloc (.cells #[.slice none 0 0] 23)).heap.size = w5.heap.size + 2 := by simp
      generalize (w5.alloc (.cells #[.int .i64 rc, .int .i64 ra] 26)).alloc (.cells #[.slice none 0 0] 23) = wB at *
      have HSB := hide hszB
      have hszB' : w5.heap.size + 2 ≤ wB.heap.size := by omega
      clear hbB hX5 hr35 hr5 hbw5 hszB
      have htl := tflat_le ss
      go_cut [12] (fun _ wc => Below (w5.heap.size + 1) wB wc ∧ ∃ av, Ob wc (w5.heap.size + 1) 23 av ∧ wc.ownsRow (w5.heap.size + 2) 5 1 av (tflat ss).length (bc (tflat ss)))
      case first =>
        go_wp2_with fail
        go_loopw [12] (fun i wr => ∃ (k : Nat) (av : Value), k ≤ ss.length ∧ i = .int .i64 k ∧ Below (w5.heap.size + 1) wB wr ∧ Ob wr (w5.heap.size + 1) 23 av ∧ wr.ownsRow (w5.heap.size + 2) 5 1 av (tflat (ss.take k)).length (bc (tflat (ss.take k)))) (fun i _ => ss.length - (intOf i).toNat)
        case atStart => exact ⟨0, _, by omega, rfl, Below.refl _ _, hA0, World.ownsRow_nil _ _ _ _⟩
        case round =>
          obtain ⟨k, av, hk', rfl, hbr, hAr, hown⟩ := hrel
          obtain ⟨a0, af0, as0⟩ := hAr.facts
          have hszr := hbr.size
          by_cases hlt : k < ss.length
          · obtain ⟨b, off, rfl, hb, hcl⟩ := hcell k hlt
            have hl0 := lsum_mem (List.getElem_mem hlt)
            have htk := tflat_take ss k
            have hsn := tflat_snoc ss k hlt
            have hck : wr.cell? ⟨b, off + k, none⟩ = some (.string ⟨ss[k].toArray⟩) := by
              rw [hbr.cell (by show b < _; omega), hbwB.cell (by exact hb)]
              exact hcl k _ (by simp [sc, hlt])
            clear hcell hcl
            generalize ss[k] = s at *
            generalize tflat (ss.take k) = acc at *
            have HS := hide hsn
            clear hsn
            have henc := encN_length s.length
            have hbase : w5.heap.size + 2 ≤ wr.heap.size := by omega
            go_wp2_with fail
            go_region_law (first | (have k9 := k4; refine step_append_rd k9 hr2 Try.underlying23 Try.info5 rfl (by rfl) (by rfl) (by rfl) (by rfl) (bc_one _) (by rw [bc_length, List.length_append]; omega) (by decide) k5 ?_; intro v6 w6 ho6 hb6 hg6; obtain ⟨ao6, cap6, rfl⟩ := owns_shape ho6; have k1 := (hb6.cell (p := ⟨w5.heap.size + 1, 0, none⟩) (by simp)).trans k1; have k2 := (hb6.frozen (p := ⟨w5.heap.size + 1, 0, none⟩) (by simp)).trans k2) | (refine step_call1 (Written_any s _ (by omega)) enters22 (by rfl) (by rfl) (by rfl) ?_; rintro v2 w2 ⟨hr2, hb2, hn2⟩; have k1 := cell_below (by exact a0) hb2; have k2 := (hb2.frozen (p := ⟨w5.heap.size + 1, 0, none⟩) (by exact as0)).trans (by exact af0); have k4 := owns_below (by exact hown) hb2; have k5 := Nat.le_trans (by exact hbase) hb2.size))
            all_goals
              go_wp2_with fail
              go_roundw
              case rel =>
                refine ⟨k + 1, .slice ao6 (acc.length + (bc (encN s.length ++ s)).length) cap6, by omega, by go_num, ((hbr.drew.trans (hb2.mono (by show _ ≤ wr.heap.size; omega))).trans (hb6.mono (by omega))).setCell (p := ⟨w5.heap.size + 1, 0, none⟩) (Nat.le_refl _) _, ?_, ?_⟩
                · have hA2 := Ob.below (w := wr.drew) hAr hb2
                  have hA6 : Ob w6 (w5.heap.size + 1) 23 av := by unfold Ob; rw [hb6.block _ (by omega)]; exact hA2
                  exact hA6.set _
                · rw [HS.out, show (acc ++ (encN s.length ++ s)).length = acc.length + (bc (encN s.length ++ s)).length by rw [bc_length, List.length_append], bc_append acc]
                  exact ownsRow_setCell_below (a := ⟨w5.heap.size + 1, 0, none⟩) ho6 (by show w5.heap.size + 1 < w5.heap.size + 2; omega) _
              case measure => simp [intOf]; omega
          · obtain rfl : k = ss.length := by omega
            rw [List.take_length] at hown
            go_wp2_with fail
            go_meet
            case rel => exact ⟨hbr, av, hAr, hown⟩
      case rest =>
        obtain ⟨hbr, av, hAr, hown⟩ := hcut
        rename World => wC
        clear hA0 hcell
        have hszC := hbr.size
        have hGC : Fb wC w5.heap.size rc ra := by unfold Fb; rw [hbr.block _ (by omega)]; exact hGB
        have hXC : Fb wC w3.heap.size nc na := by unfold Fb; rw [hbr.block _ (by omega)]; exact hXB
        have hr3C : Rd wC v3 (bc nb) := by
          obtain ⟨a1, c1, e1, e2, e3, e4, e5⟩ := hr3B
          refine ⟨a1, c1, e1, e2, e3, e4, fun a ha j y hy => ?_⟩
          have hc := e5 a ha j y hy
          have e6 : (a.add j).block = a.block := by unfold Addr.add; split <;> rfl
          have hl := hr35lt a _ _ (by rw [e1, ha]) (by have := (List.getElem?_eq_some_iff.1 hy).1; omega)
          rw [hbr.cell (by rw [e6]; omega)]
          exact hc
        have hr5C : Rd wC v5 (sc rb) := by
          obtain ⟨a1, c1, e1, e2, e3, e4, e5⟩ := hr5B
          refine ⟨a1, c1, e1, e2, e3, e4, fun a ha j y hy => ?_⟩
          have hc := e5 a ha j y hy
          have e6 : (a.add j).block = a.block := by unfold Addr.add; split <;> rfl
          have hl := hr5lt a _ _ (by rw [e1, ha]) (by have := (List.getElem?_eq_some_iff.1 hy).1; omega)
          rw [hbr.cell (by rw [e6]; omega)]
          exact hc
        have hbwC : Below w.heap.size w wC := hbwB.trans (hbr.mono (by omega))
        obtain ⟨a0, af0, as0⟩ := hAr.facts
        obtain ⟨ao7, cap7, hv7⟩ := owns_shape hown
        subst hv7
        have hrA : Rd wC (.slice ao7 (tflat ss).length cap7) (bc (tflat ss)) := Rd.ofOwns hown
        clear hGB hXB hr3B hr5B hbwB hbr hown hr35lt hr5lt hszB' HSB hszC
        have hB0 := Fb.new wC 0 0
        have hbB : Below wC.heap.size wC (wC.alloc (.cells #[.int .i64 0, .int .i64 0] 26)) := (Below.refl _ _).alloc (Nat.le_refl _) _
        have hGB := hGC.below hbB
        have hXB := hXC.below hbB
        have hAB := hAr.below hbB
        have hr3B := hr3C.below hbB
        have hr5B := hr5C.below hbB
        have hrAB := hrA.below hbB
        have hbwB := hbwC.trans (hbB.mono hbwC.size)
        have hr3lt := hr3C.lt
        have hr5lt := hr5C.lt
        have hrAlt := hrA.lt
        have hszG : w5.heap.size < wC.heap.size := hGC.facts.2.2.2.2
        have hszX : w3.heap.size < wC.heap.size := hXC.facts.2.2.2.2
        go_upto_if 69 with fail
        generalize wC.alloc (.cells #[.int .i64 0, .int .i64 0] 26) = wB2 at *
        clear hbB hGC hXC hr3C hr5C hrA hbwC hAr a0 af0
        go_cut [] (fun wc => wB2.grownBy wc (some wC.heap.size) ∧ Fb wc wC.heap.size nc na)
        case first =>
          obtain ⟨b0, b1, f0, f1, bs0⟩ := hB0.facts
          obtain ⟨a0, af0, _⟩ := hAB.facts
          by_cases hbig : 1000 < ss.length
          · have heq := HN.out
            rw [textsR_big hbig] at heq
            simp only [Prod.mk.injEq] at heq
            obtain ⟨rfl, rfl, rfl⟩ := heq
            go_wp2_with fail
            refine (F_any 2 0 _).mono ?_
            rintro e w6 ⟨rfl, rfl⟩
            simp only [flt]
            go_wp2_with fail
            go_meet
            case rel => exact ⟨grown_set_alloc _ _ _ _ _, hB0.set_alloc 2 0 _⟩
          · by_cases hmu : 60000 < (tflat ss).length
            · have heq := HN.out
              rw [textsR_much hbig hmu] at heq
              simp only [Prod.mk.injEq] at heq
              obtain ⟨rfl, rfl, rfl⟩ := heq
              go_wp2_with fail
              refine (F_any 9 0 _).mono ?_
              rintro e w6 ⟨rfl, rfl⟩
              simp only [flt]
              go_wp2_with fail
              go_meet
              case rel => exact ⟨grown_set_alloc _ _ _ _ _, hB0.set_alloc 9 0 _⟩
            · have heq := HN.out
              rw [textsR_ok hbig hmu] at heq
              simp only [Prod.mk.injEq] at heq
              obtain ⟨rfl, rfl, rfl⟩ := heq
              go_wp2_with fail
              go_meet
              case rel => exact ⟨World.grownBy.refl _ _, hB0⟩
        case rest =>
          clear hB0
          obtain ⟨hgr, hFw⟩ := hcut
          rename World => wD
          have hGD := hGB.grown hgr (by omega)
          have hXD := hXB.grown hgr (by omega)
          have hAD : wD.cell? ⟨w5.heap.size + 1, 0, none⟩ = some (.slice ao7 (tflat ss).length cap7) := hgr.cell hAB.facts.1 (by simp; omega)
          have hr3D := hr3B.grown hgr (fun a l c e hp => by have := hr3lt a l c e hp; omega)
          have hr5D := hr5B.grown hgr (fun a l c e hp => by have := hr5lt a l c e hp; omega)
          have hrAD := hrAB.grown hgr (fun a l c e hp => by have := hrAlt a l c e hp; omega)
          have hbwD : Below w.heap.size w wD := hbwB.grown hgr hbwB.size (fun j hj => by simp at hj; omega)
          clear hgr hXB hGB hAB hr3B hr5B hrAB
          obtain ⟨b0, b1, _, _, bs0⟩ := hFw.facts
          obtain ⟨x0, x1, _, _, xs0⟩ := hXD.facts
          go_upto_region 24 with fail
          go_cut [80] (fun s wc => s = .bool false ∧ Below wD.heap.size wD wc)
          case first =>
            by_cases hnc : nc = 0
            · have heq : nb = tflat ss ∧ na = 0 := by
                have h0 := HN.out
                by_cases hbig : 1000 < ss.length
                · rw [textsR_big hbig] at h0; simp only [Prod.mk.injEq] at h0; omega
                · by_cases hmu : 60000 < (tflat ss).length
                  · rw [textsR_much hbig hmu] at h0; simp only [Prod.mk.injEq] at h0; omega
                  · rw [textsR_ok hbig hmu] at h0; simp only [Prod.mk.injEq] at h0; exact ⟨h0.1.symm, h0.2.2.symm⟩
              obtain ⟨rfl, rfl⟩ := heq
              subst hnc
              go_wp2_with fail
              refine (bytesAs22_ok (w5.heap.size + 1) _ v3 (tflat ss) (tflat ss) wD hAD hrAD hr3D).mono ?_
              rintro e w7 ⟨rfl, hb7⟩
              rw [beq_self_eq_true]
              go_wp2_with fail
              go_meet
              case rel => exact ⟨rfl, hb7⟩
            · have hnb : nb = [] := by
                have h0 := HN.out
                by_cases hbig : 1000 < ss.length
                · rw [textsR_big hbig] at h0; simp only [Prod.mk.injEq] at h0; exact h0.1.symm
                · by_cases hmu : 60000 < (tflat ss).length
                  · rw [textsR_much hbig hmu] at h0; simp only [Prod.mk.injEq] at h0; exact h0.1.symm
                  · rw [textsR_ok hbig hmu] at h0; simp only [Prod.mk.injEq] at h0; omega
              subst hnb
              have HNC := hide hnc
              clear hnc
              go_wp2_with fail
              refine (bytesAs_bad v3 _ nc na wD HNC.out hr3D).mono ?_
              rintro e w7 ⟨rfl, hb7⟩
              go_wp2_with fail
              go_meet
              case rel => exact ⟨rfl, hb7⟩
          case rest =>
            obtain ⟨rfl, hb7⟩ := hcut
            have hGE := hGD.below hb7
            have hr5E := hr5D.below hb7
            have hbwE := hbwD.trans (hb7.mono hbwD.size)
            clear hGD hr5D hAD hrAD hXD hr3D b0 b1 x0 x1 bs0 xs0 hFw hr3lt hr5lt hrAlt
            rename World => wE
            obtain ⟨g0, g1, _, _, gs0⟩ := hGE.facts
            by_cases hbb : 60000 < bs.length
            · have heq := HM.out
              rw [readTexts_big hbb] at heq
              simp only [Prod.mk.injEq] at heq
              obtain ⟨rfl, rfl, rfl⟩ := heq
              obtain ⟨yo, ycap, hy, _, _, _⟩ := hr5E.open
              rw [sc_length] at hy
              subst hy
              go_wp2_with fail
              go_region_held3 (fun w' => w'.cell? ⟨w5.heap.size, 0, none⟩ = some (.int .i64 (8)) ∧ w'.cell? ⟨w5.heap.size, 1, none⟩ = some (.int .i64 (0))) (go_keep) (first | (go_at_call 14; refine (F_any _ _ _).mono ?_; rintro e w9 ⟨rfl, rfl⟩; simp only [flt]))
              all_goals
                go_wp2_with fail
                go_ret
                exact ⟨rfl, by go_grown⟩
            · go_wp2_with fail
              refine (ReadWritten_any _ bs _ (h2.below hbwE) (by omega)).mono ?_
              rintro e w8 ⟨v8, rfl, hr8, hb8, _⟩
              have heq := HM.out
              rw [readTexts_ref hbb] at heq
              generalize refTexts (bs.length + 1) bs [] = RN at *
              obtain ⟨rn, rbad⟩ := RN
              simp only at hr8 heq ⊢
              have hGF := hGE.below hb8
              have hr5F := hr5E.below hb8
              have hbwF := hbwE.trans (hb8.mono hbwE.size)
              clear hGE hr5E g0 g1
              obtain ⟨g0, g1, _, _, gs0⟩ := hGF.facts
              by_cases hrb : 0 ≤ rbad
              · rw [if_pos hrb] at heq
                simp only [Prod.mk.injEq] at heq
                obtain ⟨rfl, rfl, rfl⟩ := heq
                obtain ⟨yo, ycap, hy, _, _, _⟩ := hr5F.open
                rw [sc_length] at hy
                subst hy
                go_wp2_with fail
                go_region_held3 (fun w' => w'.cell? ⟨w5.heap.size, 0, none⟩ = some (.int .i64 (5)) ∧ w'.cell? ⟨w5.heap.size, 1, none⟩ = some (.int .i64 (rbad))) (go_keep) (first | (go_at_call 14; refine (F_any _ _ _).mono ?_; rintro e w9 ⟨rfl, rfl⟩; simp only [flt]))
                all_goals
                  go_wp2_with fail
                  go_ret
                  exact ⟨rfl, by go_grown⟩
              · rw [if_neg hrb] at heq
                obtain ⟨wo, wcap, hwv, hw1, hw2, _⟩ := hr8.open
                rw [sc_length] at hwv hw1
                subst hwv
                unfold maxLen at hw2
                by_cases hmany : 1000 < rn.length
                · rw [if_pos hmany] at heq
                  simp only [Prod.mk.injEq] at heq
                  obtain ⟨rfl, rfl, rfl⟩ := heq
                  obtain ⟨yo, ycap, hy, _, _, _⟩ := hr5F.open
                  rw [sc_length] at hy
                  subst hy
                  go_wp2_with fail
                  go_region_held3 (fun w' => w'.cell? ⟨w5.heap.size, 0, none⟩ = some (.int .i64 (2)) ∧ w'.cell? ⟨w5.heap.size, 1, none⟩ = some (.int .i64 (0))) (go_keep) (first | (go_at_call 14; refine (F_any _ _ _).mono ?_; rintro e w9 ⟨rfl, rfl⟩; simp only [flt]))
                  all_goals
                    go_wp2_with fail
                    go_ret
                    exact ⟨rfl, by go_grown⟩
                · rw [if_neg hmany] at heq
                  simp only [Prod.mk.injEq] at heq
                  obtain ⟨rfl, rfl, rfl⟩ := heq
                  go_wp2_with fail
                  refine (SameTexts_any _ _ rn rn _ hr5F hr8).mono ?_
                  rintro e w9 ⟨rfl, q, rfl⟩
                  rw [beq_self_eq_true]
                  go_wp2_with fail
                  go_ret
                  exact ⟨rfl, below_drewN hbwF q⟩

end Go.Proofs.Ytlebbkbbmgmmjaa
