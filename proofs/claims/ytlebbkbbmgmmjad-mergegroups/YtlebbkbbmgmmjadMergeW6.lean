/-
  The walk over merge's heap: take.
-/
import Derived.Test.YtlebbkbbmgmmjadMergeW5
namespace Go.Proofs.Ytlebbkbbmgmmjad
open Go.RowKit

theorem Bk.drew {w : World} {B : Nat} {t : TypeId} {xs : Array Value} (h : Bk w B t xs) : Bk w.drew B t xs := h

theorem Bk.setP {w : World} {B : Nat} {t : TypeId} {xs : Array Value} (h : Bk w B t xs) {p : Addr} (hne : B ≠ p.block) (u : Value) : Bk (w.setCell p u) B t xs := by
  unfold Bk
  rw [heap_setCell_other w p _ u hne]
  exact h

/-- A store into a block that was not there. -/
theorem gb_past {a w : World} {o : Option Nat} (h : a.grownBy w o) {p : Addr} (hp : a.heap.size ≤ p.block) (u : Value) : a.grownBy (w.setCell p u) o :=
  ⟨h.os, h.tape, h.output, by rw [World.setCell]; simp [h.size], fun k hk hn => (heap_setCell_other w p k u (by omega)).trans (h.block k hk hn)⟩

set_option maxRecDepth 100000 in
set_option maxHeartbeats 2000000 in
theorem take_any (w0 : World) (H : Nat) (xs : Array Value) (s : Src) (r : List Src) (w : World) (hB : Bk w H 132 xs) (hA : HpAt xs (s :: r)) (hP : HeapP (s :: r))
    (hb0 : Below w0.heap.size w0 w) (hH0 : w0.heap.size ≤ H) (hok : ∀ x ∈ s :: r, SOk w0 x) :
    Calls Try.prog 93 #[.pointer (some ⟨H, 0, none⟩)] w fun e w' => e = .returned (cA (hd s)) ∧ ∃ xs' hs', Bk w' H 132 xs' ∧ HpAt xs' hs' ∧ HeapP hs' ∧ hs'.Perm (restL s r) ∧ w.grownBy w' (some H) := by
  have hsok := hok s (by simp)
  obtain ⟨b, off, cap, hv, hb, hat0, hl, hc1, hc2⟩ := hsok.first
  unfold maxLen at hc2
  obtain ⟨d0, d1, d2, d3, d4⟩ := hat0.below hb0
  have c0 := (hB.cell 0).trans (hA.at0 0 s rfl)
  have c1 := (hB.cell 1).trans (hA.at1 0 s rfl)
  have c40 := (hB.cell 40).trans hA.n
  have f0 := hB.frozen 0
  have f1 := hB.frozen 1
  have f40 := hB.frozen 40
  have hHw := hB.lt
  have hbH : ¬ b = H := by omega
  have hbw : b < w.heap.size := by omega
  have hr20 := hA.len
  simp only [List.length_cons] at hr20 c40
  rw [hv] at c0
  have hr1 := hsok.1
  rw [hv] at hr1
  have hV := hr1.from (lo := 1) (by omega)
  have hs7 := run_slice_fromC (P := Try.prog) Try.underlying30 (by kernel_rfl) Try.info91 (some ⟨b, off, none⟩) s.cs.length cap 1 1 rfl (by omega)
  have htl : tlV s.v = Go.sliced (some ⟨b, off, none⟩) 1 s.cs.length cap 5 := by rw [hv]; rfl
  generalize Go.sliced (some ⟨b, off, none⟩) 1 s.cs.length cap 5 = V at hs7 hV htl
  obtain ⟨vo, vc, hvv, _, _⟩ := hV.shape
  have hln : (s.cs.drop 1).length = s.cs.length - 1 := by simp
  rw [hln] at hvv
  subst hvv
  have HV := hide hV
  have HTL := hide htl
  have HA := hide hA
  have HP := hide hP
  have HOK := hide hok
  have HB := hide hB
  have HC := hide (show Bk ((w.alloc (.cells #[.string ⟨#[]⟩, .string ⟨#[]⟩, .int .i64 0, .bool false, .string ⟨#[]⟩] 91)).alloc (.cells (ca (hd s)) 91)) (w.heap.size + 1) 91 (ca (hd s)) from Bk.new2 w _ _ _)
  clear hV htl hA hP hok hB hat0 hsok hr1 hv
  generalize hd s = c at *
  obtain ⟨n1, hn1⟩ : ∃ n1, n1 = s.cs.length - 1 := ⟨_, rfl⟩
  rw [← hn1] at hs7 HTL HV
  have HN1 := hide (show s.cs.length = n1 + 1 by omega)
  have HLN := hide hln
  have HC1 := hide hc1
  clear hln hn1
  obtain ⟨R, hR⟩ : ∃ R, R = r.length := ⟨_, rfl⟩
  have c40' : w.cell? ⟨H, 40, none⟩ = some (.int .i64 ((R : Int) + 1)) := by rw [c40, hR]; simp
  rw [← hR] at hr20
  have HR := hide hR
  clear c40 hR hc1
  generalize hLL : s.cs.length = L at *
  have HLL := hide hLL
  clear hLL
  go_enter Try.func93, Try.ntmps93
  by_cases ht : n1 = 0
  · subst ht
    obtain ⟨zo, zl, zc, zn, hz0, hz1⟩ : ∃ zo zl zc zn, (xs.setIfInBounds 0 (.slice vo 0 vc))[R * 2]? = some (.slice zo zl zc) ∧ (xs.setIfInBounds 0 (.slice vo 0 vc))[R * 2 + 1]? = some (.int .i64 zn) := by
      have hsz := HA.out.size
      rw [Array.getElem?_setIfInBounds_ne (j := R * 2 + 1) (by omega)]
      by_cases hR0 : R = 0
      · subst hR0
        exact ⟨vo, 0, vc, s.n, by simp [hsz], HA.out.at1 0 s rfl⟩
      · rw [Array.getElem?_setIfInBounds_ne (by omega)]
        have hget : (s :: r)[R]? = some ((s :: r)[R]'(by have := HR.out; simp; omega)) := List.getElem?_eq_getElem _
        obtain ⟨zb, zoff, zcap, hzv, _⟩ := (HOK.out _ (List.mem_of_getElem? hget)).first
        exact ⟨_, _, _, _, by rw [HA.out.at0 R _ hget, hzv], HA.out.at1 R _ hget⟩
    have HZ0 := hide hz0
    have HZ1 := hide hz1
    have HAF : Hid (HpAt ((((xs.setIfInBounds 0 (.slice vo 0 vc)).setIfInBounds 40 (.int .i64 R)).setIfInBounds 0 (.slice zo zl zc)).setIfInBounds 1 (.int .i64 zn)) (lastF r)) := hide (by
      have h := HA.out.front (.slice vo 0 vc) (.slice zo zl zc) zn rfl (by rw [← HR.out]; exact hz0) (by rw [← HR.out]; exact hz1)
      rw [← HR.out] at h
      exact h)
    have HDF := hide (DnH.front HP.out rfl)
    have HPE0 := hide (lastF_perm r)
    have HRL : Hid (restL s r = r) := hide (by
      have h1 := HLL.out
      have h2 := HN1.out
      unfold restL
      rw [if_pos]
      rw [← List.length_eq_zero_iff]
      simp
      omega)
    have HOK2 : Hid (∀ x ∈ lastF r, SOk w0 x) := hide (fun x hx => HOK.out x (List.mem_cons_of_mem _ ((lastF_perm r).mem_iff.1 hx)))
    go_wp2_with fail
    obtain ⟨wB, hwB⟩ : ∃ wB, wB = (((w.setCell ⟨H, 0, none⟩ (.slice vo 0 vc)).setCell ⟨H, 40, none⟩ (.int .i64 R)).alloc (.cells #[.string ⟨#[]⟩, .string ⟨#[]⟩, .int .i64 0, .bool false, .string ⟨#[]⟩] 91)).alloc (.cells #[.string c.row, .string c.col, .int .i64 c.time, .bool c.gone, .string c.val] 91) := ⟨_, rfl⟩
    have hB6 : Bk wB H 132 ((xs.setIfInBounds 0 (.slice vo 0 vc)).setIfInBounds 40 (.int .i64 R)) := by
      rw [hwB]
      have h1 := (HB.out.set 0 (.slice vo 0 vc)).set 40 (.int .i64 R)
      have h2 := h1.below (below_alloc' _ (.cells #[.string ⟨#[]⟩, .string ⟨#[]⟩, .int .i64 0, .bool false, .string ⟨#[]⟩] 91)) h1.lt
      exact h2.below (below_alloc' _ _) h2.lt
    have hR6 : Bk wB w.heap.size 91 (ca zeroC) := by
      rw [hwB]
      have h2 := (Bk.new ((w.setCell ⟨H, 0, none⟩ (.slice vo 0 vc)).setCell ⟨H, 40, none⟩ (.int .i64 R)) 91 (ca zeroC)).below (below_alloc' _ (.cells #[.string c.row, .string c.col, .int .i64 c.time, .bool c.gone, .string c.val] 91)) (by simp)
      rw [show ((w.setCell ⟨H, 0, none⟩ (.slice vo 0 vc)).setCell ⟨H, 40, none⟩ (.int .i64 R)).heap.size = w.heap.size by simp] at h2
      exact h2
    have hC6 : Bk wB (w.heap.size + 1) 91 (ca c) := by
      rw [hwB]
      have h2 := Bk.new2 ((w.setCell ⟨H, 0, none⟩ (.slice vo 0 vc)).setCell ⟨H, 40, none⟩ (.int .i64 R)) (.cells #[.string ⟨#[]⟩, .string ⟨#[]⟩, .int .i64 0, .bool false, .string ⟨#[]⟩] 91) 91 (ca c)
      rw [show ((w.setCell ⟨H, 0, none⟩ (.slice vo 0 vc)).setCell ⟨H, 40, none⟩ (.int .i64 R)).heap.size = w.heap.size by simp] at h2
      exact h2
    have hG6 : w.grownBy wB (some H) := by
      rw [hwB]
      exact gb_alloc (gb_alloc (gb_set (gb_set (gb_refl _ _) 0 _) 40 _) _) _
    rw [← hwB]
    clear hwB
    have hsz6 : ((xs.setIfInBounds 0 (.slice vo 0 vc)).setIfInBounds 40 (.int .i64 R)).size = 41 := by simp [HA.out.size]
    have y40 : wB.cell? ⟨H, 40, none⟩ = some (.int .i64 R) := by rw [hB6.cell, Array.getElem?_setIfInBounds_self_of_lt (by simp [HA.out.size])]
    have yz0 : wB.cell? ⟨H, R * 2, none⟩ = some (.slice zo zl zc) := by rw [hB6.cell, Array.getElem?_setIfInBounds_ne (by omega)]; exact HZ0.out
    have yz1 : wB.cell? ⟨H, R * 2 + 1, none⟩ = some (.int .i64 zn) := by rw [hB6.cell, Array.getElem?_setIfInBounds_ne (by omega)]; exact HZ1.out
    have y0 : wB.cell? ⟨H, 0, none⟩ = some (.slice vo 0 vc) := by rw [hB6.cell, Array.getElem?_setIfInBounds_ne (by omega), Array.getElem?_setIfInBounds_self_of_lt (by simp [HA.out.size])]
    have y1 : wB.cell? ⟨H, 1, none⟩ = some (.int .i64 s.n) := by rw [hB6.cell, Array.getElem?_setIfInBounds_ne (by omega), Array.getElem?_setIfInBounds_ne (by omega)]; exact HA.out.at1 0 s rfl
    have yf0 := hB6.frozen 0
    have yf1 := hB6.frozen 1
    have i0 : (0 : Int) ≤ (R : Int) := by omega
    have i1 : (R : Int) < 20 := by omega
    have HB7 := hide (Bk.drew ((hB6.set 0 (.slice zo zl zc)).set 1 (.int .i64 zn)))
    have HG7 := hide (gb_drew (gb_set (gb_set hG6 0 (.slice zo zl zc)) 1 (.int .i64 zn)))
    have hneR : w.heap.size ≠ H := by omega
    have hneC : w.heap.size + 1 ≠ H := by omega
    have HR7 := hide (Bk.drew ((hR6.setP (p := ⟨H, 0, none⟩) hneR (.slice zo zl zc)).setP (p := ⟨H, 1, none⟩) hneR (.int .i64 zn)))
    have HC7 := hide (Bk.drew ((hC6.setP (p := ⟨H, 0, none⟩) hneC (.slice zo zl zc)).setP (p := ⟨H, 1, none⟩) hneC (.int .i64 zn)))
    clear hB6 hR6 hC6 hG6 hz0 hz1 d0 d1 d2 d3 d4 c0 c1 f0 f1 f40 c40'
    go_region
    go_wp2_with fail
    refine (sink_any w0 H _ (lastF r) _ HB7.out HAF.out HDF.out (below_gb hb0 HG7.out hH0) hH0 HOK2.out).mono ?_
    rintro e w2 ⟨rfl, xs2, hs2, hB2, hA2, hP2, hpe, hg2⟩
    have HPE : Hid (hs2.Perm (restL s r)) := hide (by rw [HRL.out]; exact hpe.trans HPE0.out)
    have hR1 := HR7.out
    have hC1 := HC7.out
    have hG1 := HG7.out
    have hR2 := hR1.grown hg2 (by simp; omega)
    have hC2 := hC1.grown hg2 (by simp; omega)
    have HG3 := hide (gb_trans hG1 hg2)
    have HB2 := hide hB2
    have hHw2 := hB2.lt
    have hRw2 := hR2.lt
    have hCw2 := hC2.lt
    obtain ⟨e0, e1, e2, e3, e4⟩ := hC2.facts
    obtain ⟨g0, g1, g2, g3, g4⟩ := Bk.facts (c := zeroC) hR2
    obtain ⟨k0, k1, k2, k3, k4⟩ := hR2.thaw
    have hS3 := Bk.store (c := c) (d := zeroC) hR2
    have hne : H ≠ w.heap.size := by omega
    have HB3 := hide (((((hB2.setP (p := ⟨w.heap.size, 0, none⟩) hne (.string c.row)).setP (p := ⟨w.heap.size, 1, none⟩) hne (.string c.col)).setP (p := ⟨w.heap.size, 2, none⟩) hne (.int .i64 c.time)).setP (p := ⟨w.heap.size, 3, none⟩) hne (.bool c.gone)).setP (p := ⟨w.heap.size, 4, none⟩) hne (.string c.val))
    have HG4 := hide (gb_past (gb_past (gb_past (gb_past (gb_past HG3.out (p := ⟨w.heap.size, 0, none⟩) (Nat.le_refl _) (.string c.row)) (p := ⟨w.heap.size, 1, none⟩) (Nat.le_refl _) (.string c.col)) (p := ⟨w.heap.size, 2, none⟩) (Nat.le_refl _) (.int .i64 c.time)) (p := ⟨w.heap.size, 3, none⟩) (Nat.le_refl _) (.bool c.gone)) (p := ⟨w.heap.size, 4, none⟩) (Nat.le_refl _) (.string c.val))
    clear hB2 hg2 hS3 hR1 hC1 hG1
    simp only [zeroC] at g0 g1 g2 g3 g4
    go_wp2_with fail
    exact bodyPost_ret (v := cA c) (by simp [results, Try.results93, go_sem, cA, g0, g1, g2, g3, g4]) rfl ⟨rfl, xs2, hs2, HB3.out, hA2, hP2, HPE.out, HG4.out⟩
  · have hbe : (n1 == 0) = false := beq_eq_false_iff_ne.2 ht
    have hbe2 : ((n1 : Int) == 0) = false := beq_eq_false_iff_ne.2 (by omega)
    have htail : s.cs.tail ≠ [] := by
      intro h
      have h1 := HLL.out
      have h2 := HN1.out
      have h3 : s.cs.tail.length = 0 := by rw [h]; rfl
      simp at h3
      omega
    have htlv : (tl s).v = .slice vo n1 vc := HTL.out
    have HA1 : Hid (HpAt (xs.setIfInBounds 0 (.slice vo n1 vc)) (tl s :: r)) := hide (by
      have h := HA.out.head (tl s) rfl (by rw [htlv]; rfl)
      rw [htlv] at h
      exact h)
    have HD1 := hide (DnH.head HP.out rfl (tl s))
    have HOK2 : Hid (∀ x ∈ tl s :: r, SOk w0 x) := hide (fun x hx => by
      rcases List.mem_cons.1 hx with rfl | hx
      · exact (HOK.out s (by simp)).tl htail
      · exact HOK.out x (List.mem_cons_of_mem _ hx))
    have HRL : Hid (restL s r = tl s :: r) := hide (by unfold restL; rw [if_neg htail])
    have h1 := HB.out.set 0 (.slice vo n1 vc)
    have h2 := h1.below (below_alloc' _ (.cells #[.string ⟨#[]⟩, .string ⟨#[]⟩, .int .i64 0, .bool false, .string ⟨#[]⟩] 91)) h1.lt
    have hB1 := h2.below (below_alloc' _ (.cells #[.string c.row, .string c.col, .int .i64 c.time, .bool c.gone, .string c.val] 91)) h2.lt
    have hG1 := gb_alloc (gb_alloc (gb_set (gb_refl w (some H)) 0 (.slice vo n1 vc)) (.cells #[.string ⟨#[]⟩, .string ⟨#[]⟩, .int .i64 0, .bool false, .string ⟨#[]⟩] 91)) (.cells #[.string c.row, .string c.col, .int .i64 c.time, .bool c.gone, .string c.val] 91)
    have hR1 : Bk (((w.setCell ⟨H, 0, none⟩ (.slice vo n1 vc)).alloc (.cells #[.string ⟨#[]⟩, .string ⟨#[]⟩, .int .i64 0, .bool false, .string ⟨#[]⟩] 91)).alloc (.cells #[.string c.row, .string c.col, .int .i64 c.time, .bool c.gone, .string c.val] 91)) w.heap.size 91 (ca zeroC) := by
      have h2 := (Bk.new (w.setCell ⟨H, 0, none⟩ (.slice vo n1 vc)) 91 (ca zeroC)).below (below_alloc' _ (.cells #[.string c.row, .string c.col, .int .i64 c.time, .bool c.gone, .string c.val] 91)) (by simp)
      rw [show (w.setCell ⟨H, 0, none⟩ (.slice vo n1 vc)).heap.size = w.heap.size by simp] at h2
      exact h2
    have hC1 : Bk (((w.setCell ⟨H, 0, none⟩ (.slice vo n1 vc)).alloc (.cells #[.string ⟨#[]⟩, .string ⟨#[]⟩, .int .i64 0, .bool false, .string ⟨#[]⟩] 91)).alloc (.cells #[.string c.row, .string c.col, .int .i64 c.time, .bool c.gone, .string c.val] 91)) (w.heap.size + 1) 91 (ca c) := by
      have h2 := Bk.new2 (w.setCell ⟨H, 0, none⟩ (.slice vo n1 vc)) (.cells #[.string ⟨#[]⟩, .string ⟨#[]⟩, .int .i64 0, .bool false, .string ⟨#[]⟩] 91) 91 (ca c)
      rw [show (w.setCell ⟨H, 0, none⟩ (.slice vo n1 vc)).heap.size = w.heap.size by simp] at h2
      exact h2
    have HB1 := hide hB1
    have HG1 := hide hG1
    have HR1 := hide hR1
    have HC1' := hide hC1
    clear h1 h2 hB1 hG1 hR1 hC1 htlv htail
    go_wp2_with fail
    refine (sink_any w0 H _ (tl s :: r) _ HB1.out HA1.out HD1.out (below_gb hb0 HG1.out hH0) hH0 HOK2.out).mono ?_
    rintro e w2 ⟨rfl, xs2, hs2, hB2, hA2, hP2, hpe, hg2⟩
    have HPE : Hid (hs2.Perm (restL s r)) := hide (by rw [HRL.out]; exact hpe)
    have hR1 := HR1.out
    have hC1 := HC1'.out
    have hG1 := HG1.out
    clear d0 d1 d2 d3 d4 c0 c1 f0 f1 f40 c40'
    have hR2 := hR1.grown hg2 (by simp; omega)
    have hC2 := hC1.grown hg2 (by simp; omega)
    have HG3 := hide (gb_trans hG1 hg2)
    have HB2 := hide hB2
    have hHw2 := hB2.lt
    have hRw2 := hR2.lt
    have hCw2 := hC2.lt
    obtain ⟨e0, e1, e2, e3, e4⟩ := hC2.facts
    obtain ⟨g0, g1, g2, g3, g4⟩ := Bk.facts (c := zeroC) hR2
    obtain ⟨k0, k1, k2, k3, k4⟩ := hR2.thaw
    have hS3 := Bk.store (c := c) (d := zeroC) hR2
    have hne : H ≠ w.heap.size := by omega
    have HB3 := hide (((((hB2.setP (p := ⟨w.heap.size, 0, none⟩) hne (.string c.row)).setP (p := ⟨w.heap.size, 1, none⟩) hne (.string c.col)).setP (p := ⟨w.heap.size, 2, none⟩) hne (.int .i64 c.time)).setP (p := ⟨w.heap.size, 3, none⟩) hne (.bool c.gone)).setP (p := ⟨w.heap.size, 4, none⟩) hne (.string c.val))
    have HG4 := hide (gb_past (gb_past (gb_past (gb_past (gb_past HG3.out (p := ⟨w.heap.size, 0, none⟩) (Nat.le_refl _) (.string c.row)) (p := ⟨w.heap.size, 1, none⟩) (Nat.le_refl _) (.string c.col)) (p := ⟨w.heap.size, 2, none⟩) (Nat.le_refl _) (.int .i64 c.time)) (p := ⟨w.heap.size, 3, none⟩) (Nat.le_refl _) (.bool c.gone)) (p := ⟨w.heap.size, 4, none⟩) (Nat.le_refl _) (.string c.val))
    clear hB2 hg2 hS3 hR1 hC1 hG1
    simp only [zeroC] at g0 g1 g2 g3 g4
    go_wp2_with fail
    exact bodyPost_ret (v := cA c) (by simp [results, Try.results93, go_sem, cA, g0, g1, g2, g3, g4]) rfl ⟨rfl, xs2, hs2, HB3.out, hA2, hP2, HPE.out, HG4.out⟩

end Go.Proofs.Ytlebbkbbmgmmjad
