/-
  The walks over merge's heap: who is ahead, two places changed.
-/
import Derived.Test.YtlebbkbbmgmmjadCellW5
import Derived.BigRegion
namespace Go.Proofs.Ytlebbkbbmgmmjad
open Go.RowKit

/-- What is left of a list, and the list's number. -/
structure Src where
  v : Value
  cs : List Cl
  n : Int

/-- A source as a value. -/
def sA (s : Src) : Value := .agg #[s.v, .int .i64 s.n]
/-- Its first cell. -/
def hd (s : Src) : Cl := s.cs.headD zeroC
/-- Does the first cell of s come ahead of that of o? -/
def ahB (s o : Src) : Bool := decide (ordC (hd s) (hd o) < 0) || (decide (ordC (hd s) (hd o) = 0) && decide (s.n < o.n))

/-- A source that can be read, and has a cell. -/
def SOk (w : World) (s : Src) : Prop := RdC w s.v s.cs ∧ s.cs ≠ []
theorem SOk.below {w w' : World} {s : Src} (h : SOk w s) (hb : Below w.heap.size w w') : SOk w' s := ⟨h.1.below hb, h.2⟩

theorem SOk.first {w : World} {s : Src} (h : SOk w s) : ∃ b off cap, s.v = .slice (some ⟨b, off, none⟩) s.cs.length cap ∧ b < w.heap.size ∧ At w b off (hd s) ∧ 0 < s.cs.length ∧ s.cs.length ≤ cap ∧ cap ≤ maxLen := by
  obtain ⟨hr, h0⟩ := h
  obtain ⟨ao, cap, hv, h1, h2⟩ := hr.shape
  have hr' := hr
  rw [hv] at hr'
  have hl : 0 < s.cs.length := by
    cases hc : s.cs with
    | nil => exact absurd hc h0
    | cons c r => simp
  have hg : s.cs[0]? = some (hd s) := by
    unfold hd
    cases hc : s.cs with
    | nil => exact absurd hc h0
    | cons c r => rfl
  obtain ⟨b, off, ha, hb, hat⟩ := hr'.hereD hg
  subst ha
  rw [Nat.zero_mul, Nat.add_zero] at hat
  exact ⟨b, off, cap, hv, hb, hat, hl, h1, h2⟩

set_option maxRecDepth 100000 in
set_option maxHeartbeats 1000000 in
theorem isAhead_any (s o : Src) (w : World) (hs : SOk w s) (ho : SOk w o) :
    Calls Try.prog 124 #[sA s, sA o] w fun e w' => e = .returned (.bool (ahB s o)) ∧ Below w.heap.size w w' := by
  obtain ⟨b, off, cap, hv, hb, hat, hl, hc1, hc2⟩ := hs.first
  obtain ⟨b2, off2, cap2, hv2, hb2, hat2, hl2, hd1, hd2⟩ := ho.first
  unfold maxLen at hc2 hd2
  unfold sA
  rw [hv, hv2]
  have hkeep : ∀ W, Below w.heap.size w W → (W.cell? ⟨b, off, none⟩ = some (.string (hd s).row) ∧ W.cell? ⟨b, off + 1, none⟩ = some (.string (hd s).col) ∧ W.cell? ⟨b, off + 2, none⟩ = some (.int .i64 (hd s).time) ∧ W.cell? ⟨b, off + 3, none⟩ = some (.bool (hd s).gone) ∧ W.cell? ⟨b, off + 4, none⟩ = some (.string (hd s).val)) ∧ (W.cell? ⟨b2, off2, none⟩ = some (.string (hd o).row) ∧ W.cell? ⟨b2, off2 + 1, none⟩ = some (.string (hd o).col) ∧ W.cell? ⟨b2, off2 + 2, none⟩ = some (.int .i64 (hd o).time) ∧ W.cell? ⟨b2, off2 + 3, none⟩ = some (.bool (hd o).gone) ∧ W.cell? ⟨b2, off2 + 4, none⟩ = some (.string (hd o).val)) := fun W h => by
    obtain ⟨c0, c1, c2, c3, c4⟩ := hat.below h
    obtain ⟨d0, d1, d2, d3, d4⟩ := hat2.below h
    exact ⟨⟨c0, c1, c2, c3, c4⟩, d0, d1, d2, d3, d4⟩
  have HK := hide hkeep
  obtain ⟨c0, c1, c2, c3, c4⟩ := hat
  obtain ⟨d0, d1, d2, d3, d4⟩ := hat2
  have HE : Hid (ahB s o = (decide (ordC (hd s) (hd o) < 0) || (decide (ordC (hd s) (hd o) = 0) && decide (s.n < o.n)))) := hide rfl
  clear hkeep hs ho hv hv2
  generalize hd s = c at *
  generalize hd o = d at *
  generalize ahB s o = r at *
  generalize s.n = sn at *
  generalize o.n = on at *
  generalize s.cs.length = L1 at *
  generalize o.cs.length = L2 at *
  go_enter Try.func124, Try.ntmps124
  go_wp2_with fail
  have hB1 := (Bk.new w 129 #[.slice (some ⟨b, off, none⟩) L1 cap, .int .i64 sn]).below (below_alloc' _ (.cells #[.slice (some ⟨b2, off2, none⟩) L2 cap2, .int .i64 on] 129)) (by simp)
  have hB2 := Bk.new (w.alloc (.cells #[.slice (some ⟨b, off, none⟩) L1 cap, .int .i64 sn] 129)) 129 #[.slice (some ⟨b2, off2, none⟩) L2 cap2, .int .i64 on]
  rw [show (w.alloc (.cells #[.slice (some ⟨b, off, none⟩) L1 cap, .int .i64 sn] 129)).heap.size = w.heap.size + 1 by simp] at hB2
  have hbA : Below w.heap.size w ((w.alloc (.cells #[.slice (some ⟨b, off, none⟩) L1 cap, .int .i64 sn] 129)).alloc (.cells #[.slice (some ⟨b2, off2, none⟩) L2 cap2, .int .i64 on] 129)) := (below_alloc' _ _).trans ((below_alloc' _ _).mono (by simp))
  have hzA : ((w.alloc (.cells #[.slice (some ⟨b, off, none⟩) L1 cap, .int .i64 sn] 129)).alloc (.cells #[.slice (some ⟨b2, off2, none⟩) L2 cap2, .int .i64 on] 129)).heap.size = w.heap.size + 2 := by simp
  generalize (w.alloc (.cells #[.slice (some ⟨b, off, none⟩) L1 cap, .int .i64 sn] 129)).alloc (.cells #[.slice (some ⟨b2, off2, none⟩) L2 cap2, .int .i64 on] 129) = wA at hB1 hB2 hbA hzA ⊢
  have hkeep2 : ∀ W, Below wA.heap.size wA W → (W.cell? ⟨w.heap.size, 0, none⟩ = some (.slice (some ⟨b, off, none⟩) L1 cap) ∧ W.cell? ⟨w.heap.size, 1, none⟩ = some (.int .i64 sn) ∧ W.cell? ⟨w.heap.size + 1, 0, none⟩ = some (.slice (some ⟨b2, off2, none⟩) L2 cap2) ∧ W.cell? ⟨w.heap.size + 1, 1, none⟩ = some (.int .i64 on)) ∧ (W.cell? ⟨b, off, none⟩ = some (.string c.row) ∧ W.cell? ⟨b, off + 1, none⟩ = some (.string c.col) ∧ W.cell? ⟨b, off + 2, none⟩ = some (.int .i64 c.time) ∧ W.cell? ⟨b, off + 3, none⟩ = some (.bool c.gone) ∧ W.cell? ⟨b, off + 4, none⟩ = some (.string c.val)) ∧ (W.cell? ⟨b2, off2, none⟩ = some (.string d.row) ∧ W.cell? ⟨b2, off2 + 1, none⟩ = some (.string d.col) ∧ W.cell? ⟨b2, off2 + 2, none⟩ = some (.int .i64 d.time) ∧ W.cell? ⟨b2, off2 + 3, none⟩ = some (.bool d.gone) ∧ W.cell? ⟨b2, off2 + 4, none⟩ = some (.string d.val)) := fun W h =>
    ⟨⟨(hB1.below h (by omega)).cell 0, (hB1.below h (by omega)).cell 1, (hB2.below h (by omega)).cell 0, (hB2.below h (by omega)).cell 1⟩, HK.out W (hbA.trans (h.mono (by omega)))⟩
  have HK2 := hide hkeep2
  clear c0 c1 c2 c3 c4 d0 d1 d2 d3 d4 HK
  obtain ⟨⟨e0, e1, f0, f1⟩, ⟨c0, c1, c2, c3, c4⟩, d0, d1, d2, d3, d4⟩ := hkeep2 wA (Below.refl _ _)
  clear hkeep2
  have h3 : ordC c d < 0 ∨ ordC c d = 0 ∨ 0 < ordC c d := by omega
  rcases h3 with h3 | h3 | h3
  · have HR : Hid (r = true) := hide (by rw [HE.out]; simp [h3])
    have hd1 : decide (ordC c d < 0) = true := by simpa using h3
    go_region_held3 (fun W => (W.cell? ⟨w.heap.size, 0, none⟩ = some (.slice (some ⟨b, off, none⟩) L1 cap) ∧ W.cell? ⟨w.heap.size, 1, none⟩ = some (.int .i64 sn) ∧ W.cell? ⟨w.heap.size + 1, 0, none⟩ = some (.slice (some ⟨b2, off2, none⟩) L2 cap2) ∧ W.cell? ⟨w.heap.size + 1, 1, none⟩ = some (.int .i64 on)) ∧ (W.cell? ⟨b, off, none⟩ = some (.string c.row) ∧ W.cell? ⟨b, off + 1, none⟩ = some (.string c.col) ∧ W.cell? ⟨b, off + 2, none⟩ = some (.int .i64 c.time) ∧ W.cell? ⟨b, off + 3, none⟩ = some (.bool c.gone) ∧ W.cell? ⟨b, off + 4, none⟩ = some (.string c.val)) ∧ (W.cell? ⟨b2, off2, none⟩ = some (.string d.row) ∧ W.cell? ⟨b2, off2 + 1, none⟩ = some (.string d.col) ∧ W.cell? ⟨b2, off2 + 2, none⟩ = some (.int .i64 d.time) ∧ W.cell? ⟨b2, off2 + 3, none⟩ = some (.bool d.gone) ∧ W.cell? ⟨b2, off2 + 4, none⟩ = some (.string d.val))) (exact HK2.out _ (by go_grown)) (first
      | (go_at_call 63; refine (order_any c d _).mono ?_; rintro e w2 ⟨rfl, hb2⟩; have hb12 : Below wA.heap.size wA w2 := Below.trans (by go_grown) hb2))
    go_wp2_with fail
    go_ret
    exact ⟨by rw [HR.out]; first | rfl | (simp; done) | (simp [h3]; done) | (simp; omega), hbA.trans (hb12.mono (by omega))⟩
  · have hd1 : decide (ordC c d < 0) = false := by simp; omega
    have hd2 : (ordC c d == 0) = true := by simpa using h3
    have HR : Hid (r = decide (sn < on)) := hide (by rw [HE.out, hd1]; simp [h3])
    go_region_held3 (fun W => (W.cell? ⟨w.heap.size, 0, none⟩ = some (.slice (some ⟨b, off, none⟩) L1 cap) ∧ W.cell? ⟨w.heap.size, 1, none⟩ = some (.int .i64 sn) ∧ W.cell? ⟨w.heap.size + 1, 0, none⟩ = some (.slice (some ⟨b2, off2, none⟩) L2 cap2) ∧ W.cell? ⟨w.heap.size + 1, 1, none⟩ = some (.int .i64 on)) ∧ (W.cell? ⟨b, off, none⟩ = some (.string c.row) ∧ W.cell? ⟨b, off + 1, none⟩ = some (.string c.col) ∧ W.cell? ⟨b, off + 2, none⟩ = some (.int .i64 c.time) ∧ W.cell? ⟨b, off + 3, none⟩ = some (.bool c.gone) ∧ W.cell? ⟨b, off + 4, none⟩ = some (.string c.val)) ∧ (W.cell? ⟨b2, off2, none⟩ = some (.string d.row) ∧ W.cell? ⟨b2, off2 + 1, none⟩ = some (.string d.col) ∧ W.cell? ⟨b2, off2 + 2, none⟩ = some (.int .i64 d.time) ∧ W.cell? ⟨b2, off2 + 3, none⟩ = some (.bool d.gone) ∧ W.cell? ⟨b2, off2 + 4, none⟩ = some (.string d.val))) (exact HK2.out _ (by go_grown)) (first
      | (go_at_call 63; refine (order_any c d _).mono ?_; rintro e w2 ⟨rfl, hb2⟩; have hb12 : Below wA.heap.size wA w2 := Below.trans (by go_grown) hb2))
    clear c0 c1 c2 c3 c4 d0 d1 d2 d3 d4 e0 e1 f0 f1
    obtain ⟨⟨e0, e1, f0, f1⟩, _, _⟩ := HK2.out w2 hb12
    go_wp2_with fail
    go_ret
    exact ⟨by rw [HR.out]; first | rfl | (simp; done) | (simp [h3]; done) | (simp; omega), hbA.trans (hb12.mono (by omega))⟩
  · have hd1 : decide (ordC c d < 0) = false := by simp; omega
    have hd2 : (ordC c d == 0) = false := beq_eq_false_iff_ne.2 (by omega)
    have HR : Hid (r = false) := hide (by rw [HE.out, hd1]; simp; omega)
    go_region_held3 (fun W => (W.cell? ⟨w.heap.size, 0, none⟩ = some (.slice (some ⟨b, off, none⟩) L1 cap) ∧ W.cell? ⟨w.heap.size, 1, none⟩ = some (.int .i64 sn) ∧ W.cell? ⟨w.heap.size + 1, 0, none⟩ = some (.slice (some ⟨b2, off2, none⟩) L2 cap2) ∧ W.cell? ⟨w.heap.size + 1, 1, none⟩ = some (.int .i64 on)) ∧ (W.cell? ⟨b, off, none⟩ = some (.string c.row) ∧ W.cell? ⟨b, off + 1, none⟩ = some (.string c.col) ∧ W.cell? ⟨b, off + 2, none⟩ = some (.int .i64 c.time) ∧ W.cell? ⟨b, off + 3, none⟩ = some (.bool c.gone) ∧ W.cell? ⟨b, off + 4, none⟩ = some (.string c.val)) ∧ (W.cell? ⟨b2, off2, none⟩ = some (.string d.row) ∧ W.cell? ⟨b2, off2 + 1, none⟩ = some (.string d.col) ∧ W.cell? ⟨b2, off2 + 2, none⟩ = some (.int .i64 d.time) ∧ W.cell? ⟨b2, off2 + 3, none⟩ = some (.bool d.gone) ∧ W.cell? ⟨b2, off2 + 4, none⟩ = some (.string d.val))) (exact HK2.out _ (by go_grown)) (first
      | (go_at_call 63; refine (order_any c d _).mono ?_; rintro e w2 ⟨rfl, hb2⟩; have hb12 : Below wA.heap.size wA w2 := Below.trans (by go_grown) hb2))
    go_wp2_with fail
    go_ret
    exact ⟨by rw [HR.out]; first | rfl | (simp; done) | (simp [h3]; done) | (simp; omega), hbA.trans (hb12.mono (by omega))⟩

end Go.Proofs.Ytlebbkbbmgmmjad
