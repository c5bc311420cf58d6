/-
  The walks over merge's heap: sink.
-/
import Derived.Test.YtlebbkbbmgmmjadMergeW3
namespace Go.Proofs.Ytlebbkbbmgmmjad
open Go.RowKit

/-- The first one of a place and those below it, as far as they were looked at. -/
structure FstH (hs : List Src) (k f b : Nat) : Prop where
  lo : 2 * k + 1 ≤ b
  hi : b ≤ 2 * k + 3
  is : f = k ∨ (2 * k + 1 ≤ f ∧ f < b ∧ f < hs.length)
  le : ∀ y, hs[f]? = some y → (∀ x, hs[k]? = some x → Le2 y x) ∧ ∀ (i : Nat) z, 0 < i → (i - 1) / 2 = k → i < b → hs[i]? = some z → Le2 y z

theorem FstH.init (hs : List Src) (k : Nat) : FstH hs k k (2 * k + 1) :=
  ⟨by omega, by omega, .inl rfl, fun y hy => ⟨fun x hx => by rw [hy] at hx; cases hx; exact Le2.refl _, fun i z h0 hi hb => by omega⟩⟩

theorem FstH.keep {hs : List Src} {k f b : Nat} (h : FstH hs k f b) (hb : b ≤ 2 * k + 2) {x y : Src} (hx : hs[b]? = some x) (hy : hs[f]? = some y) (hn : ahB x y = false) : FstH hs k f (b + 1) := by
  refine ⟨by have := h.lo; omega, by omega, ?_, fun y' hy' => ⟨(h.le y' hy').1, fun i z h0 hi hb' hz => ?_⟩⟩
  · rcases h.is with h1 | ⟨h1, h2, h3⟩
    · exact .inl h1
    · exact .inr ⟨h1, by omega, h3⟩
  · rw [hy] at hy'
    cases hy'
    by_cases hib : i = b
    · subst hib
      rw [hx] at hz
      cases hz
      exact hn
    · exact (h.le y hy).2 i z h0 hi (by omega) hz

theorem FstH.take {hs : List Src} {k f b : Nat} (h : FstH hs k f b) (hb : b ≤ 2 * k + 2) {x y : Src} (hx : hs[b]? = some x) (hy : hs[f]? = some y) (hn : ahB x y = true) : FstH hs k b (b + 1) := by
  have hxy := Le2_of_ah hn
  have hl := (List.getElem?_eq_some_iff.1 hx).1
  refine ⟨by have := h.lo; omega, by omega, .inr ⟨h.lo, by omega, hl⟩, fun y' hy' => ?_⟩
  rw [hx] at hy'
  cases hy'
  refine ⟨fun z hz => hxy.trans ((h.le y hy).1 z hz), fun i z h0 hi hb' hz => ?_⟩
  by_cases hib : i = b
  · subst hib
    rw [hx] at hz
    cases hz
    exact Le2.refl _
  · exact hxy.trans ((h.le y hy).2 i z h0 hi (by omega) hz)

theorem FstH.done {hs : List Src} {k b : Nat} (h : FstH hs k k b) (hd : DnH hs k) (he : 2 * k + 2 < b ∨ hs.length ≤ b) : HeapP hs := by
  refine hd.done fun i a c h0 hi ha hc => ?_
  have hl := (List.getElem?_eq_some_iff.1 hc).1
  exact (h.le a ha).2 i c h0 hi (by omega) hc

theorem FstH.step {hs : List Src} {k f b : Nat} (h : FstH hs k f b) (hd : DnH hs k) (he : 2 * k + 2 < b ∨ hs.length ≤ b) (hne : f ≠ k) : DnH (swp hs k f) f ∧ k < f ∧ f < hs.length := by
  rcases h.is with h1 | ⟨h1, h2, h3⟩
  · exact absurd h1 hne
  · have hhi := h.hi
    have hy := List.getElem?_eq_getElem h3
    have hx : hs[k]? = some (hs[k]'(by omega)) := List.getElem?_eq_getElem (by omega)
    obtain ⟨l1, l2⟩ := h.le _ hy
    refine ⟨hd.step (by omega) (by omega) h3 hx hy (l1 _ hx) (fun i z h0 hi hz => ?_), by omega, h3⟩
    have hl := (List.getElem?_eq_some_iff.1 hz).1
    exact l2 i z h0 hi (by omega) hz

set_option maxRecDepth 100000 in
set_option maxHeartbeats 2000000 in
theorem sink_any (w0 : World) (H : Nat) (xs : Array Value) (hs : List Src) (w : World) (hB : Bk w H 132 xs) (hA : HpAt xs hs) (hD : DnH hs 0)
    (hb0 : Below w0.heap.size w0 w) (hH0 : w0.heap.size ≤ H) (hok : ∀ x ∈ hs, SOk w0 x) :
    Calls Try.prog 115 #[.pointer (some ⟨H, 0, none⟩)] w fun e w' => e = .returned (.tuple #[]) ∧ ∃ xs' hs', Bk w' H 132 xs' ∧ HpAt xs' hs' ∧ HeapP hs' ∧ hs'.Perm hs ∧ w.grownBy w' (some H) := by
  have HOK := hide hok
  have HB := hide hB
  have HA := hide hA
  have HD := hide hD
  clear hok hB hA hD
  go_enter Try.func115, Try.ntmps115
  go_wp2_with fail
  go_loopw [2] (fun a wr => ∃ (k : Nat) (xs2 : Array Value) (hs2 : List Src), a = .int .i64 k ∧ (k = 0 ∨ k < hs2.length) ∧ Bk wr H 132 xs2 ∧ HpAt xs2 hs2 ∧ DnH hs2 k ∧ hs2.Perm hs ∧ w.grownBy wr (some H))
    (fun a _ => 20 - (intOf a).toNat)
  case atStart => exact ⟨0, xs, hs, rfl, .inl rfl, HB.out, HA.out, HD.out, List.Perm.refl _, gb_refl _ _⟩
  case round =>
    obtain ⟨k, xs2, hs2, rfl, hk, hB2, hA2, hD2, hp2, hg2⟩ := hrel
    have HD2 := hide hD2
    have HA2 := hide hA2
    have HP2 := hide hp2
    have HG2 := hide hg2
    have HB2 := hide hB2
    have hl20 := hA2.len
    have hk20 : k < 20 := by omega
    have hbr := below_gb hb0 hg2 hH0
    have hn := hA2.n
    obtain ⟨wL, hwL⟩ : ∃ wL, wL = wr := ⟨_, rfl⟩
    subst hwL
    clear hD2 hA2 hp2 hg2
    go_wp2_with fail
    go_loopw [3, 4] (fun fv bv wr => ∃ f b : Nat, fv = .int .i64 f ∧ bv = .int .i64 b ∧ FstH hs2 k f b ∧ Below wL.heap.size wL wr)
      (fun _ bv _ => 2 * k + 3 - (intOf bv).toNat)
    case atStart => exact ⟨k, 2 * k + 1, rfl, by go_num, FstH.init _ _, Below.refl _ _⟩
    case round =>
      obtain ⟨f, b, rfl, rfl, hF, hbel⟩ := hrel
      have HF := hide hF
      have hlo := hF.lo
      have hhi := hF.hi
      have hB3 := HB2.out.below hbel HB2.out.lt
      have c40 := (hB3.cell 40).trans hn
      have hf20 : f < 20 := by rcases hF.is with h | h <;> omega
      have hfl : f = k ∨ f < hs2.length := by rcases hF.is with h | h <;> omega
      clear hF
      by_cases hc1 : b ≤ 2 * k + 2
      · have hd1 : decide ((b : Int) ≤ 2 * (k : Int) + 2) = true := by simp; omega
        by_cases hc2 : b < hs2.length
        · have hd2 : decide ((b : Int) < (hs2.length : Int)) = true := by simp; omega
          obtain ⟨x, hx⟩ : ∃ x, hs2[b]? = some x := ⟨_, List.getElem?_eq_getElem hc2⟩
          obtain ⟨y, hy⟩ : ∃ y, hs2[f]? = some y := ⟨_, List.getElem?_eq_getElem (by omega)⟩
          have hbw : Below w0.heap.size w0 wr := hbr.trans (hbel.mono hbr.size)
          have hxok := (HOK.out x (HP2.out.mem_iff.1 (List.mem_of_getElem? hx))).below hbw
          have hyok := (HOK.out y (HP2.out.mem_iff.1 (List.mem_of_getElem? hy))).below hbw
          have hkeep : ∀ W, Below wr.heap.size wr W → W.cell? ⟨H, b * 2, none⟩ = some x.v ∧ W.cell? ⟨H, b * 2 + 1, none⟩ = some (.int .i64 x.n) ∧ W.cell? ⟨H, f * 2, none⟩ = some y.v ∧ W.cell? ⟨H, f * 2 + 1, none⟩ = some (.int .i64 y.n) := fun W h => by
            have hBW := hB3.below h hB3.lt
            exact ⟨(hBW.cell _).trans (HA2.out.at0 b x hx), (hBW.cell _).trans (HA2.out.at1 b x hx), (hBW.cell _).trans (HA2.out.at0 f y hy), (hBW.cell _).trans (HA2.out.at1 f y hy)⟩
          have HK := hide hkeep
          obtain ⟨q0, q1, q2, q3⟩ := hkeep wr (Below.refl _ _)
          have HX := hide hx
          have HY := hide hy
          have j0 : (0 : Int) ≤ (b : Int) := by omega
          have j1 : (b : Int) < 20 := by omega
          have j2 : (0 : Int) ≤ (f : Int) := by omega
          have j3 : (f : Int) < 20 := by omega
          clear hkeep hx hy hB3 hB2
          cases h7 : ahB x y
          · have HN := hide (HF.out.keep hc1 HX.out HY.out h7)
            go_wp2_with fail
            go_region_held3 (fun W => W.cell? ⟨H, b * 2, none⟩ = some x.v ∧ W.cell? ⟨H, b * 2 + 1, none⟩ = some (.int .i64 x.n) ∧ W.cell? ⟨H, f * 2, none⟩ = some y.v ∧ W.cell? ⟨H, f * 2 + 1, none⟩ = some (.int .i64 y.n)) (exact HK.out _ (by go_grown)) (first
              | (go_at_call 124; refine (isAhead_any x y _ (by exact hxok.below (by go_grown)) (by exact hyok.below (by go_grown))).mono ?_; rintro e w2 ⟨rfl, hb2⟩; rw [h7]; have hb12 : Below wr.heap.size wr w2 := Below.trans (by go_grown) hb2))
            go_wp2_with fail
            go_roundw
            case rel => exact ⟨f, b + 1, rfl, by go_num, HN.out, hbel.trans (hb12.mono hbel.size)⟩
            case measure => simp [intOf]; omega
          · have HN := hide (HF.out.take hc1 HX.out HY.out h7)
            go_wp2_with fail
            go_region_held3 (fun W => W.cell? ⟨H, b * 2, none⟩ = some x.v ∧ W.cell? ⟨H, b * 2 + 1, none⟩ = some (.int .i64 x.n) ∧ W.cell? ⟨H, f * 2, none⟩ = some y.v ∧ W.cell? ⟨H, f * 2 + 1, none⟩ = some (.int .i64 y.n)) (exact HK.out _ (by go_grown)) (first
              | (go_at_call 124; refine (isAhead_any x y _ (by exact hxok.below (by go_grown)) (by exact hyok.below (by go_grown))).mono ?_; rintro e w2 ⟨rfl, hb2⟩; rw [h7]; have hb12 : Below wr.heap.size wr w2 := Below.trans (by go_grown) hb2))
            go_wp2_with fail
            go_roundw
            case rel => exact ⟨b, b + 1, rfl, by go_num, HN.out, hbel.trans (hb12.mono hbel.size)⟩
            case measure => simp [intOf]; omega
        · have hd2 : decide ((b : Int) < (hs2.length : Int)) = false := by simp; omega
          have hd3 : decide (b < hs2.length) = false := by simp; omega
          have he : 2 * k + 2 < b ∨ hs2.length ≤ b := by omega
          by_cases hfk : f = k
          · subst hfk
            have HDN := hide (HF.out.done HD2.out he)
            have hbe : ((f : Int) == (f : Int)) = true := by simp
            go_wp2_with fail
            refine bodyPost_ret (v := .tuple #[]) (by simp [results, Try.results115, go_sem]) rfl ⟨rfl, xs2, hB3, hs2, HA2.out, HDN.out, HP2.out, gb_trans HG2.out (gb_below hbel)⟩
          · obtain ⟨hst, hkf, hfl2⟩ := HF.out.step HD2.out he hfk
            have HST := hide hst
            have hbe : ((f : Int) == (k : Int)) = false := beq_eq_false_iff_ne.2 (by omega)
            have hbe2 : (f == k) = false := beq_eq_false_iff_ne.2 hfk
            obtain ⟨x, hx⟩ : ∃ x, hs2[k]? = some x := ⟨_, List.getElem?_eq_getElem (by omega)⟩
            obtain ⟨y, hy⟩ : ∃ y, hs2[f]? = some y := ⟨_, List.getElem?_eq_getElem hfl2⟩
            obtain ⟨_, _, _, hxv, _⟩ := (HOK.out x (HP2.out.mem_iff.1 (List.mem_of_getElem? hx))).first
            obtain ⟨_, _, _, hyv, _⟩ := (HOK.out y (HP2.out.mem_iff.1 (List.mem_of_getElem? hy))).first
            have HSA := hide (HA2.out.swap (fun e => hfk e.symm) hx hy)
            have HPE := hide ((swp_perm (hs := hs2) (i := k) (j := f) (by omega) hfl2).trans HP2.out)
            have hlen2 : f < (swp hs2 k f).length := by rw [swp_len]; exact hfl2
            have HX := hide hx
            have HY := hide hy
            clear hx hy hst
            go_wp2_with fail
            refine (swap_any H xs2 k f x.v y.v x.n y.n _ hB3 hk20 hf20 (fun e => hfk e.symm) (HA2.out.at0 k x HX.out) (HA2.out.at1 k x HX.out) (HA2.out.at0 f y HY.out) (HA2.out.at1 f y HY.out) ⟨_, _, _, hxv⟩ ⟨_, _, _, hyv⟩).mono ?_
            rintro e w3 ⟨rfl, hB4, hg4⟩
            go_wp2_with fail
            go_roundw
            case rel => exact ⟨f, _, _, rfl, .inr hlen2, hB4, HSA.out, HST.out, HPE.out, gb_trans (gb_trans HG2.out (gb_below hbel)) hg4⟩
            case measure => simp [intOf]; omega
      · have hd1 : decide ((b : Int) ≤ 2 * (k : Int) + 2) = false := by simp; omega
        have he : 2 * k + 2 < b ∨ hs2.length ≤ b := by omega
        by_cases hfk : f = k
        · subst hfk
          have HDN := hide (HF.out.done HD2.out he)
          have hbe : ((f : Int) == (f : Int)) = true := by simp
          go_wp2_with fail
          refine bodyPost_ret (v := .tuple #[]) (by simp [results, Try.results115, go_sem]) rfl ⟨rfl, xs2, hB3, hs2, HA2.out, HDN.out, HP2.out, gb_trans HG2.out (gb_below hbel)⟩
        · obtain ⟨hst, hkf, hfl2⟩ := HF.out.step HD2.out he hfk
          have HST := hide hst
          have hbe : ((f : Int) == (k : Int)) = false := beq_eq_false_iff_ne.2 (by omega)
          have hbe2 : (f == k) = false := beq_eq_false_iff_ne.2 hfk
          obtain ⟨x, hx⟩ : ∃ x, hs2[k]? = some x := ⟨_, List.getElem?_eq_getElem (by omega)⟩
          obtain ⟨y, hy⟩ : ∃ y, hs2[f]? = some y := ⟨_, List.getElem?_eq_getElem hfl2⟩
          obtain ⟨_, _, _, hxv, _⟩ := (HOK.out x (HP2.out.mem_iff.1 (List.mem_of_getElem? hx))).first
          obtain ⟨_, _, _, hyv, _⟩ := (HOK.out y (HP2.out.mem_iff.1 (List.mem_of_getElem? hy))).first
          have HSA := hide (HA2.out.swap (fun e => hfk e.symm) hx hy)
          have HPE := hide ((swp_perm (hs := hs2) (i := k) (j := f) (by omega) hfl2).trans HP2.out)
          have hlen2 : f < (swp hs2 k f).length := by rw [swp_len]; exact hfl2
          have HX := hide hx
          have HY := hide hy
          clear hx hy hst
          go_wp2_with fail
          refine (swap_any H xs2 k f x.v y.v x.n y.n _ hB3 hk20 hf20 (fun e => hfk e.symm) (HA2.out.at0 k x HX.out) (HA2.out.at1 k x HX.out) (HA2.out.at0 f y HY.out) (HA2.out.at1 f y HY.out) ⟨_, _, _, hxv⟩ ⟨_, _, _, hyv⟩).mono ?_
          rintro e w3 ⟨rfl, hB4, hg4⟩
          go_wp2_with fail
          go_roundw
          case rel => exact ⟨f, _, _, rfl, .inr hlen2, hB4, HSA.out, HST.out, HPE.out, gb_trans (gb_trans HG2.out (gb_below hbel)) hg4⟩
          case measure => simp [intOf]; omega

end Go.Proofs.Ytlebbkbbmgmmjad
