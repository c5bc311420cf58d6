/-
  The walks over merge's heap: put.
-/
import Derived.Test.YtlebbkbbmgmmjadHeapMath
namespace Go.Proofs.Ytlebbkbbmgmmjad
open Go.RowKit

/-- A new source in the place behind the last. -/
theorem HpAt.push {xs : Array Value} {hs : List Src} (h : HpAt xs hs) (s : Src) (hl : hs.length < 20) (hv : s.v.oneCell' = true) :
    HpAt (((xs.setIfInBounds (hs.length * 2) s.v).setIfInBounds (hs.length * 2 + 1) (.int .i64 s.n)).setIfInBounds 40 (.int .i64 ((hs.length : Int) + 1))) (hs ++ [s]) := by
  have hs' := h.size
  have key : ∀ m, (((xs.setIfInBounds (hs.length * 2) s.v).setIfInBounds (hs.length * 2 + 1) (.int .i64 s.n)).setIfInBounds 40 (.int .i64 ((hs.length : Int) + 1)))[m]? = if m = 40 then some (.int .i64 ((hs.length : Int) + 1)) else if m = hs.length * 2 + 1 then some (.int .i64 s.n) else if m = hs.length * 2 then some s.v else xs[m]? := by
    intro m
    simp only [Array.getElem?_setIfInBounds, Array.size_setIfInBounds]
    by_cases h1 : m = 40
    · subst h1; simp; omega
    · rw [if_neg (fun e => h1 e.symm), if_neg h1]
      by_cases h3 : m = hs.length * 2 + 1
      · subst h3; simp; omega
      · rw [if_neg (fun e => h3 e.symm), if_neg h3]
        by_cases h4 : m = hs.length * 2
        · subst h4; simp; omega
        · rw [if_neg (fun e => h4 e.symm), if_neg h4]
  refine ⟨by simp [hs'], by simp; omega, ?_, fun k t hk => ?_, fun k t hk => ?_, ?_⟩
  · rw [key, if_pos rfl]
    simp
  · have hkl := (List.getElem?_eq_some_iff.1 hk).1
    simp at hkl
    rw [key, if_neg (by omega), if_neg (by omega)]
    by_cases h1 : k = hs.length
    · subst h1
      rw [if_pos rfl]
      simp at hk
      rw [hk]
    · rw [if_neg (by omega)]
      rw [List.getElem?_append_left (by omega)] at hk
      exact h.at0 k t hk
  · have hkl := (List.getElem?_eq_some_iff.1 hk).1
    simp at hkl
    rw [key, if_neg (by omega)]
    by_cases h1 : k = hs.length
    · subst h1
      rw [if_pos rfl]
      simp at hk
      rw [hk]
    · rw [if_neg (by omega), if_neg (by omega)]
      rw [List.getElem?_append_left (by omega)] at hk
      exact h.at1 k t hk
  · rw [Array.all_eq_true_iff_forall_mem]
    intro v hv'
    obtain ⟨m, hm, e⟩ := Array.mem_iff_getElem.1 hv'
    have hk := key m
    rw [Array.getElem?_eq_getElem hm, e] at hk
    have hone : ∀ v ∈ xs, v.oneCell' = true := Array.all_eq_true_iff_forall_mem.1 h.one
    split at hk
    · cases hk; rfl
    · split at hk
      · cases hk; rfl
      · split at hk
        · cases hk; exact hv
        · exact hone _ (Array.mem_of_getElem? hk.symm)

/-- What lies below a heap's block is as it was. -/
theorem below_gb {w0 w w' : World} {H : Nat} (h : Below w0.heap.size w0 w) (hg : w.grownBy w' (some H)) (hH : w0.heap.size ≤ H) : Below w0.heap.size w0 w' :=
  h.grown hg h.size (fun j hj => by simp at hj; omega)

set_option maxRecDepth 100000 in
set_option maxHeartbeats 2000000 in
theorem put_any (w0 : World) (H : Nat) (xs : Array Value) (hs : List Src) (s : Src) (w : World) (hB : Bk w H 132 xs) (hH : HpAt xs hs) (hP : HeapP hs) (hlen : hs.length < 20)
    (hb0 : Below w0.heap.size w0 w) (hH0 : w0.heap.size ≤ H) (hok : ∀ x ∈ hs, SOk w0 x) (hsok : SOk w0 s) :
    Calls Try.prog 114 #[.pointer (some ⟨H, 0, none⟩), sA s] w fun e w' => e = .returned (.tuple #[]) ∧ ∃ xs' hs', Bk w' H 132 xs' ∧ HpAt xs' hs' ∧ HeapP hs' ∧ hs'.Perm (s :: hs) ∧ w.grownBy w' (some H) := by
  obtain ⟨b, off, cap, hv, hb, hat, hl, hc1, hc2⟩ := hsok.first
  have hone : s.v.oneCell' = true := by rw [hv]; rfl
  have HPU := hide (hH.push s hlen hone)
  have HUP := hide (UpH.init hP s)
  have HPM : Hid ((hs ++ [s]).Perm (s :: hs)) := hide (List.perm_append_comm (l₁ := hs) (l₂ := [s]))
  have hokA : ∀ x ∈ hs ++ [s], SOk w0 x := fun x hx => (List.mem_append.1 hx).elim (hok x) (fun h => by simp at h; rw [h]; exact hsok)
  have HOK := hide hokA
  have hxn := hH.n
  have hsz := hH.size
  have hHw := hB.lt
  have c40 := (hB.cell 40).trans hxn
  have f40 := hB.frozen 40
  have f0 := hB.frozen (hs.length * 2)
  have f1 := hB.frozen (hs.length * 2 + 1)
  obtain ⟨u0, hu0⟩ : ∃ u, w.cell? ⟨H, hs.length * 2, none⟩ = some u := ⟨_, (hB.cell _).trans (Array.getElem?_eq_getElem (by omega))⟩
  obtain ⟨u1, hu1⟩ : ∃ u, w.cell? ⟨H, hs.length * 2 + 1, none⟩ = some u := ⟨_, (hB.cell _).trans (Array.getElem?_eq_getElem (by omega))⟩
  have i0 : (0 : Int) ≤ (hs.length : Int) := by omega
  have i1 : (hs.length : Int) < 20 := by omega
  have hne0 : ¬ (40 = hs.length * 2) := by omega
  have hne1 : ¬ (40 = hs.length * 2 + 1) := by omega
  unfold sA
  have hv' := hv
  rw [hv] at HPU ⊢
  have HB3 := hide ((((hB.set (hs.length * 2) (.slice (some ⟨b, off, none⟩) s.cs.length cap)).set (hs.length * 2 + 1) (.int .i64 s.n)).set 40 (.int .i64 ((hs.length : Int) + 1))))
  have HG3 := hide (gb_set (gb_set (gb_set (gb_refl w (some H)) (hs.length * 2) (.slice (some ⟨b, off, none⟩) s.cs.length cap)) (hs.length * 2 + 1) (.int .i64 s.n)) 40 (.int .i64 ((hs.length : Int) + 1)))
  generalize hxx : (((xs.setIfInBounds (hs.length * 2) (.slice (some ⟨b, off, none⟩) s.cs.length cap)).setIfInBounds (hs.length * 2 + 1) (.int .i64 s.n)).setIfInBounds 40 (.int .i64 ((hs.length : Int) + 1))) = xs1 at HPU HB3
  clear hxx hB hH hP hok hokA hat hxn hone
  go_enter Try.func114, Try.ntmps114
  go_wp2_with fail
  go_region
  go_wp2_with fail
  go_loopw [4] (fun a wr => ∃ (k : Nat) (xs2 : Array Value) (hs2 : List Src), a = .int .i64 k ∧ Bk wr H 132 xs2 ∧ HpAt xs2 hs2 ∧ UpH hs2 k ∧ hs2.Perm (s :: hs) ∧ w.grownBy wr (some H))
    (fun a _ => (intOf a).toNat)
  case atStart => exact ⟨hs.length, xs1, hs ++ [s], rfl, (show Bk (World.alloc _ _) _ _ _ from HB3.out.below (below_alloc' _ _) HB3.out.lt), HPU.out, HUP.out, HPM.out, gb_drew (gb_alloc HG3.out _)⟩
  case round =>
    obtain ⟨k, xs2, hs2, rfl, hB2, hA2, hU2, hp2, hg2⟩ := hrel
    have HU2 := hide hU2
    have HA2 := hide hA2
    have HP2 := hide hp2
    have HG2 := hide hg2
    have HB2 := hide hB2
    have hkl := hU2.lt
    have hl20 := hA2.len
    have hsz2 := hA2.size
    have hbr := below_gb hb0 hg2 hH0
    clear c40 f40 f0 f1 hu0 hu1 hne0 hne1 i0 i1 hsz hHw HB3 HG3 HPU HUP HPM
    by_cases hk0 : k = 0
    · subst hk0
      have HD := hide (hU2.done (.inl rfl))
      have hg0 : decide ((0 : Int) < ((0 : Nat) : Int)) = false := by simp
      clear hU2 hA2 hp2 hg2 hB2
      go_wp2_with fail
      go_quiet (fail)
      go_wp2_with fail
      refine bodyPost_end (v := .tuple #[]) (by simp [results, Try.results114, go_sem]) rfl ⟨rfl, xs2, hs2, HB2.out, HA2.out, HD.out, HP2.out, gb_drewN HG2.out _⟩
    · obtain ⟨k1, hk1⟩ : ∃ k1, k1 = k - 1 := ⟨_, rfl⟩
      obtain ⟨p, hp⟩ : ∃ p, p = (k - 1) / 2 := ⟨_, rfl⟩
      obtain ⟨x, hx⟩ : ∃ x, hs2[k]? = some x := ⟨_, List.getElem?_eq_getElem hkl⟩
      obtain ⟨y, hy⟩ : ∃ y, hs2[p]? = some y := ⟨_, List.getElem?_eq_getElem (by omega)⟩
      have hxok := (HOK.out x (by have := hp2.mem_iff.1 (List.mem_of_getElem? hx); simpa [or_comm] using this)).below hbr
      have hyok := (HOK.out y (by have := hp2.mem_iff.1 (List.mem_of_getElem? hy); simpa [or_comm] using this)).below hbr
      have hkeep : ∀ W, Below wr.heap.size wr W → W.cell? ⟨H, k * 2, none⟩ = some x.v ∧ W.cell? ⟨H, k * 2 + 1, none⟩ = some (.int .i64 x.n) ∧ W.cell? ⟨H, p * 2, none⟩ = some y.v ∧ W.cell? ⟨H, p * 2 + 1, none⟩ = some (.int .i64 y.n) := fun W h => by
        have hBW := hB2.below h hB2.lt
        exact ⟨(hBW.cell _).trans (hA2.at0 k x hx), (hBW.cell _).trans (hA2.at1 k x hx), (hBW.cell _).trans (hA2.at0 p y hy), (hBW.cell _).trans (hA2.at1 p y hy)⟩
      have HK := hide hkeep
      obtain ⟨q0, q1, q2, q3⟩ := hkeep wr (Below.refl _ _)
      have HX := hide hx
      have HY := hide hy
      have hw1 : IntKind.i64.wrap ((k : Int) - 1) = (k1 : Int) := by rw [IntKind.wrap_i64]; omega
      have hq : (k1 : Int) / 2 = (p : Int) := by omega
      have hw2 : IntKind.i64.wrap (p : Int) = (p : Int) := by rw [IntKind.wrap_i64]; omega
      have j0 : (0 : Int) ≤ (k : Int) := by omega
      have j1 : (k : Int) < 20 := by omega
      have j2 : (0 : Int) ≤ (p : Int) := by omega
      have j3 : (p : Int) < 20 := by omega
      have hg0 : decide ((0 : Int) < (k : Int)) = true := by simp; omega
      have hg1 : decide (0 < k) = true := by simp; omega
      have hpk : k ≠ p := by omega
      have HPP := hide hp
      clear hU2 hA2 hp2 hg2 hB2 hkeep hx hy hp hk1
      go_wp2_with fail
      cases h7 : ahB x y
      · have HD := hide (HU2.out.done (.inr (fun a b' ha hb' => by rw [← HPP.out, HY.out] at ha; rw [HX.out] at hb'; cases ha; cases hb'; exact h7)))
        go_region_held3 (fun W => W.cell? ⟨H, k * 2, none⟩ = some x.v ∧ W.cell? ⟨H, k * 2 + 1, none⟩ = some (.int .i64 x.n) ∧ W.cell? ⟨H, p * 2, none⟩ = some y.v ∧ W.cell? ⟨H, p * 2 + 1, none⟩ = some (.int .i64 y.n)) (exact HK.out _ (by go_grown)) (first
          | (go_at_call 124; refine (isAhead_any x y _ (by exact hxok.below (by go_grown)) (by exact hyok.below (by go_grown))).mono ?_; rintro e w2 ⟨rfl, hb2⟩; rw [h7]; have hb12 : Below wr.heap.size wr w2 := Below.trans (by go_grown) hb2))
        go_wp2_with fail
        refine bodyPost_end (v := .tuple #[]) (by simp [results, Try.results114, go_sem]) rfl ⟨rfl, xs2, hs2, HB2.out.below hb12 HB2.out.lt, HA2.out, HD.out, HP2.out, gb_trans HG2.out (gb_below hb12)⟩
      · have HST : Hid (UpH (swp hs2 k p) p) := hide (by have h := HU2.out.step (by omega) HX.out (y := y) (by rw [← HPP.out]; exact HY.out) h7; rw [← HPP.out] at h; exact h)
        have HSA := hide (HA2.out.swap hpk HX.out HY.out)
        have HPE : Hid ((swp hs2 k p).Perm (s :: hs)) := hide ((swp_perm hkl (by have := HPP.out; omega)).trans HP2.out)
        go_region_held3 (fun W => W.cell? ⟨H, k * 2, none⟩ = some x.v ∧ W.cell? ⟨H, k * 2 + 1, none⟩ = some (.int .i64 x.n) ∧ W.cell? ⟨H, p * 2, none⟩ = some y.v ∧ W.cell? ⟨H, p * 2 + 1, none⟩ = some (.int .i64 y.n)) (exact HK.out _ (by go_grown)) (first
          | (go_at_call 124; refine (isAhead_any x y _ (by exact hxok.below (by go_grown)) (by exact hyok.below (by go_grown))).mono ?_; rintro e w2 ⟨rfl, hb2⟩; rw [h7]; have hb12 : Below wr.heap.size wr w2 := Below.trans (by go_grown) hb2))
        have hB3 := HB2.out.below hb12 HB2.out.lt
        obtain ⟨_, _, _, hxv, _⟩ := hxok.first
        obtain ⟨_, _, _, hyv, _⟩ := hyok.first
        go_wp2_with fail
        refine (swap_any H xs2 k p x.v y.v x.n y.n _ hB3 (by omega) (by omega) hpk (HA2.out.at0 k x HX.out) (HA2.out.at1 k x HX.out) (HA2.out.at0 p y HY.out) (HA2.out.at1 p y HY.out) ⟨_, _, _, hxv⟩ ⟨_, _, _, hyv⟩).mono ?_
        rintro e w3 ⟨rfl, hB4, hg4⟩
        go_wp2_with fail
        go_roundw
        case rel => exact ⟨p, _, _, rfl, hB4, HSA.out, HST.out, HPE.out, gb_trans (gb_trans HG2.out (gb_below hb12)) hg4⟩
        case measure => have := HPP.out; simp [intOf]; omega

end Go.Proofs.Ytlebbkbbmgmmjad
