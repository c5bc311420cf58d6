/-
  The walks over cell.Check: the first fault.
-/
import Derived.Test.YtlebbkbbmgmmjadCellW2
namespace Go.Proofs.Ytlebbkbbmgmmjad
open Go.RowKit

/-- The first number from i on whose code is not 0. -/
def firstG (f : Nat → Int) : Nat → Nat → Int × Int
  | 0, _ => (0, 0)
  | m + 1, i => if f i ≠ 0 then (f i, i) else firstG f m (i + 1)

/-- The first fault of n things. -/
def faultR (f : Nat → Int) (n : Nat) : Int × Int := if 1000 < n then (2, 0) else firstG f n 0
/-- What Check says. -/
def checkC (cs : List Cl) : Int × Int := faultR (codeAt cs) cs.length
/-- A fault, as a value. -/
def fltC (p : Int × Int) : Value := .agg #[.int .i64 p.1, .int .i64 p.2]

theorem firstG_hit {f : Nat → Int} {m i : Nat} (h : f i ≠ 0) (hm : 0 < m) : firstG f m i = (f i, (i : Int)) := by
  obtain ⟨m, rfl⟩ : ∃ k, m = k + 1 := ⟨m - 1, by omega⟩
  simp [firstG, h]

theorem firstG_next {f : Nat → Int} {m i : Nat} (h : f i = 0) (hm : 0 < m) : firstG f m i = firstG f (m - 1) (i + 1) := by
  obtain ⟨m, rfl⟩ : ∃ k, m = k + 1 := ⟨m - 1, by omega⟩
  simp [firstG, h]

set_option maxRecDepth 100000 in
set_option maxHeartbeats 400000 in
theorem firstFaultC_any (p v : Value) (cs : List Cl) (f : Nat → Int) (w : World) (hv : RdC w v cs)
    (hcl : ∀ (i : Nat) W, i < cs.length → Below w.heap.size w W → Calls Try.prog 61 #[.int .i64 i, p] W fun e w' => e = .returned (.int .i64 (f i)) ∧ Below W.heap.size W w') :
    Calls Try.prog 60 #[v, .func (.func 61) #[] #[p]] w fun e w' => e = .returned (fltC (faultR f cs.length)) ∧ Below w.heap.size w w' := by
  obtain ⟨ao, cap, rfl, hc1, hc2⟩ := hv.shape
  unfold maxLen at hc2
  have HCL := hide hcl
  clear hcl hv
  by_cases hbig : 1000 < cs.length
  · have HE := hide (show faultR f cs.length = (2, 0) by simp [faultR, hbig])
    go_enter Try.func60, Try.ntmps60
    go_wp2_with fail
    exact bodyPost_ret (v := fltC (2, 0)) (by simp [results, Try.results60, go_sem, fltC]) rfl ⟨by rw [HE.out], by go_grown⟩
  · have HF := hide (show faultR f cs.length = firstG f cs.length 0 by simp [faultR, hbig])
    go_enter Try.func60, Try.ntmps60
    go_wp2_with fail
    go_loopw [13] (fun i wr => ∃ k : Nat, k ≤ cs.length ∧ i = .int .i64 k ∧ firstG f (cs.length - k) k = faultR f cs.length ∧ Below (w.heap.size + 1) (w.alloc (.cells #[.int .i64 0, .int .i64 0] 28)) wr)
      (fun i _ => cs.length - (intOf i).toNat)
    case atStart => exact ⟨0, by omega, rfl, by rw [HF.out]; rfl, Below.refl _ _⟩
    case round =>
      obtain ⟨k, hk, rfl, hgo, hbel⟩ := hrel
      have HG := hide hgo
      clear hgo
      obtain ⟨hf0, hf1, hfr0, hfr1, hsz⟩ := two_later hbel
      have hbf := below_first hbel
      by_cases hlt : k < cs.length
      · go_wp2_with fail
        refine (HCL.out k wr hlt hbf).mono ?_
        rintro e w1 ⟨rfl, hb1⟩
        have hbel1 := hbel.trans (hb1.mono (by omega))
        obtain ⟨gf0, gf1, gfr0, gfr1, gsz⟩ := two_later hbel1
        have hbf1 := below_first hbel1
        by_cases h0 : f k = 0
        · have HE := hide (firstG_next (f := f) (m := cs.length - k) h0 (by omega))
          rw [h0]
          go_wp2_with fail
          go_roundw
          case rel => exact ⟨k + 1, by omega, by go_num, by rw [← HG.out, HE.out]; congr 1, hbel1⟩
          case measure => simp [intOf]; omega
        · have hb : (f k != 0) = true := by simp [h0]
          have HE := hide (firstG_hit (f := f) (m := cs.length - k) h0 (by omega))
          clear h0
          go_wp2_with fail
          exact bodyPost_ret (v := fltC (f k, k)) (by simp [results, Try.results60, go_sem, fltC, gf0, gf1]) rfl ⟨by rw [← HG.out, HE.out], by go_grown⟩
      · have hz : cs.length - k = 0 := by omega
        rw [hz] at HG
        go_wp2_with fail
        exact bodyPost_ret (v := fltC (0, 0)) (by simp [results, Try.results60, go_sem, fltC, hf0, hf1]) rfl ⟨by rw [← HG.out]; rfl, by go_grown⟩


set_option maxRecDepth 100000 in
set_option maxHeartbeats 400000 in
theorem CCheck_any (v : Value) (cs : List Cl) (w : World) (hv : RdC w v cs) :
    Calls Try.prog 17 #[v] w fun e w' => e = .returned (fltC (checkC cs)) ∧ Below w.heap.size w w' := by
  obtain ⟨ao, cap, hvv, hc1, hc2⟩ := hv.shape
  subst hvv
  go_enter Try.func17, Try.ntmps17
  go_wp2_with fail
  have hbC : Below w.heap.size w ((w.alloc (.cells #[.slice ao cs.length cap] 30)).alloc (.cells #[.int .i64 0, .int .i64 0] 28)) := ((Below.refl _ _).alloc (Nat.le_refl _) _).alloc (by simp) _
  have hL : ((w.alloc (.cells #[.slice ao cs.length cap] 30)).alloc (.cells #[.int .i64 0, .int .i64 0] 28)).cell? ⟨w.heap.size, 0, none⟩ = some (.slice ao cs.length cap) := by simp
  have hF : Below (w.heap.size + 2) ((w.alloc (.cells #[.slice ao cs.length cap] 30)).alloc (.cells #[.int .i64 0, .int .i64 0] 28)) ((w.alloc (.cells #[.slice ao cs.length cap] 30)).alloc (.cells #[.int .i64 0, .int .i64 0] 28)) := Below.refl _ _
  have hz : ((w.alloc (.cells #[.slice ao cs.length cap] 30)).alloc (.cells #[.int .i64 0, .int .i64 0] 28)).heap.size = w.heap.size + 2 := by simp
  have f0 : ((w.alloc (.cells #[.slice ao cs.length cap] 30)).alloc (.cells #[.int .i64 0, .int .i64 0] 28)).cell? ⟨w.heap.size + 1, 0, none⟩ = some (.int .i64 0) := by simp
  have f1 : ((w.alloc (.cells #[.slice ao cs.length cap] 30)).alloc (.cells #[.int .i64 0, .int .i64 0] 28)).cell? ⟨w.heap.size + 1, 1, none⟩ = some (.int .i64 0) := by simp
  have g0 : ((w.alloc (.cells #[.slice ao cs.length cap] 30)).alloc (.cells #[.int .i64 0, .int .i64 0] 28)).frozen? ⟨w.heap.size + 1, 0, none⟩ = false := by simp
  have g1 : ((w.alloc (.cells #[.slice ao cs.length cap] 30)).alloc (.cells #[.int .i64 0, .int .i64 0] 28)).frozen? ⟨w.heap.size + 1, 1, none⟩ = false := by simp
  generalize (w.alloc (.cells #[.slice ao cs.length cap] 30)).alloc (.cells #[.int .i64 0, .int .i64 0] 28) = wA at *
  have hvA := hv.below hbC
  refine (firstFaultC_any _ _ cs (codeAt cs) wA hvA (fun i W hi hW => Check1_any _ _ cs i W (cell_belowC hL hW) (hvA.below hW) hi)).mono ?_
  rintro e w1 ⟨rfl, hb1⟩
  have e0 := (hb1.cell (p := ⟨w.heap.size + 1, 0, none⟩) (by simp only; omega)).trans f0
  have e1 := (hb1.cell (p := ⟨w.heap.size + 1, 1, none⟩) (by simp only; omega)).trans f1
  have e2 := (hb1.frozen (p := ⟨w.heap.size + 1, 0, none⟩) (by simp only; omega)).trans g0
  have e3 := (hb1.frozen (p := ⟨w.heap.size + 1, 1, none⟩) (by simp only; omega)).trans g1
  have hbw : Below w.heap.size w w1 := hbC.trans (hb1.mono (by omega))
  have hs1 := hb1.size
  have HE := hide (show checkC cs = faultR (codeAt cs) cs.length from rfl)
  generalize faultR (codeAt cs) cs.length = r at HE ⊢
  obtain ⟨x, y⟩ := r
  unfold fltC
  clear hb1 hbC hL hF f0 f1 g0 g1 hvA hv
  go_wp2_with fail
  exact bodyPost_ret (v := fltC (x, y)) (by simp [results, Try.results17, go_sem, fltC, e0, e1]) rfl ⟨by rw [HE.out], by go_grown⟩

end Go.Proofs.Ytlebbkbbmgmmjad
