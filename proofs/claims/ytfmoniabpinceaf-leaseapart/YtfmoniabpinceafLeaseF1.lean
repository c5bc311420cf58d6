/-
  The walks over lease.isAnySlow and areFair.
-/
import Derived.Test.YtfmoniabpinceafLeaseC1
import Derived.Test.YtfmoniabpinceafLeaseMath5
namespace Go.Proofs.Ytfmoniabpinceaf
open Go.RowKit
set_option linter.unusedVariables false

/-- A moment in memory: the granter's clock, and where the clients' lie. -/
structure Mo where
  now : Int
  ao : Option Addr
  len : Nat
  cap : Nat

def mE : En Mo 2 where
  v m := [.int .i64 m.now, .slice m.ao m.len m.cap]
  len _ := rfl
  one p u hu := by
    simp only [List.mem_cons, List.not_mem_nil, or_false] at hu
    rcases hu with rfl | rfl <;> rfl
  pos := by decide

/-- The slice v reads as moments. -/
def RdM (w : World) (v : Value) (M : List (Int × List Int)) : Prop :=
  ∃ ps : List Mo, RdG mE w v ps ∧ ps.length = M.length ∧ ∀ (i : Nat) p m, ps[i]? = some p → M[i]? = some m → p.now = m.1 ∧ RdG iE w (.slice p.ao p.len p.cap) m.2

theorem RdM.below {w w' : World} {v : Value} {M : List (Int × List Int)} (h : RdM w v M) (hb : Below w.heap.size w w') : RdM w' v M := by
  obtain ⟨ps, h1, h2, h3⟩ := h
  exact ⟨ps, h1.below hb, h2, fun i p m hp hm => ⟨(h3 i p m hp hm).1, (h3 i p m hp hm).2.below hb⟩⟩

theorem RdM.shape {w : World} {v : Value} {M : List (Int × List Int)} (h : RdM w v M) : ∃ ao cap, v = .slice ao M.length cap ∧ M.length ≤ cap ∧ cap ≤ maxLen := by
  obtain ⟨ps, h1, h2, _⟩ := h
  obtain ⟨ao, cap, h3, h4, h5⟩ := h1.shape
  rw [h2] at h3 h4
  exact ⟨ao, cap, h3, h4, h5⟩

theorem RdM.here {w : World} {ao : Option Addr} {n cap : Nat} {M : List (Int × List Int)} (h : RdM w (.slice ao n cap) M) {i : Nat} {m : Int × List Int} (hi : M[i]? = some m) :
    ∃ b off co cl cc, ao = some ⟨b, off, none⟩ ∧ b < w.heap.size ∧ w.cell? ⟨b, off + i * 2, none⟩ = some (.int .i64 m.1) ∧ w.cell? ⟨b, off + i * 2 + 1, none⟩ = some (.slice co cl cc) ∧ RdG iE w (.slice co cl cc) m.2 := by
  obtain ⟨ps, h1, h2, h3⟩ := h
  have hl := (List.getElem?_eq_some_iff.1 hi).1
  have hp : ps[i]? = some (ps[i]'(by omega)) := List.getElem?_eq_getElem _
  obtain ⟨b, off, e, hb, hat⟩ := h1.here hp
  obtain ⟨h4, h5⟩ := h3 i _ m hp hi
  refine ⟨b, off, _, _, _, e, hb, ?_, hat 1 _ rfl, h5⟩
  rw [← h4]
  exact hat 0 _ rfl

/-- From the k-th client on: is one's clock too slow? -/
def slowGo (d : Int) : List Int → List Int → Bool
  | x :: a, y :: b => decide (y - x < d) || slowGo d a b
  | _, _ => false

theorem slowGo_eq (d : Int) : ∀ (a b : List Int), slowGo d a b = slowB a b d
  | [], _ => by simp [slowGo, slowB]
  | _ :: _, [] => by simp [slowGo, slowB]
  | x :: a, y :: b => by
    rw [slowGo, slowGo_eq d a b]
    simp [slowB]

theorem drop_consZ {l : List Int} {i : Nat} {x : Int} (h : l[i]? = some x) : l.drop i = x :: l.drop (i + 1) := by
  obtain ⟨hl, rfl⟩ := List.getElem?_eq_some_iff.1 h
  exact List.drop_eq_getElem_cons hl

theorem RdG.hereI {w : World} {ao : Option Addr} {n cap : Nat} {zs : List Int} (h : RdG iE w (.slice ao n cap) zs) {i : Nat} {x : Int} (hi : zs[i]? = some x) :
    ∃ b off, ao = some ⟨b, off, none⟩ ∧ b < w.heap.size ∧ w.cell? ⟨b, off + i, none⟩ = some (.int .i64 x) := by
  obtain ⟨b, off, e, hb, hat⟩ := h.here hi
  have := hat 0 _ rfl
  rw [Nat.mul_one, Nat.add_zero] at this
  exact ⟨b, off, e, hb, this⟩

/-- Clocks that may be. -/
def ClkOk (l : List Int) : Prop := ∀ x ∈ l, 0 ≤ x ∧ x ≤ 900000000

set_option maxRecDepth 100000 in
set_option maxHeartbeats 4000000 in
theorem isAnySlow_any (n1 n2 span : Int) (v1 v2 : Value) (a b : List Int) (w : World) (h1 : RdG iE w v1 a) (h2 : RdG iE w v2 b) (hl : a.length = b.length) (ha : ClkOk a) (hb : ClkOk b) (hs : 4 ≤ span ∧ span ≤ 1000000) :
    Calls Try.prog 65 #[.agg #[.int .i64 n1, v1], .agg #[.int .i64 n2, v2], .int .i64 span] w fun e w' => e = .returned (.bool (slowB a b (trustD span))) ∧ Below w.heap.size w w' := by
  rw [← slowGo_eq]
  have HA := hide h1
  have HB := hide h2
  have HCA := hide ha
  have HCB := hide hb
  have HT := hide (fun W => trusted_any span W (by omega) hs.2)
  obtain ⟨ao, cap, rfl, hc1, hc2⟩ := h1.shape
  obtain ⟨bo, cap2, rfl, hd1, hd2⟩ := h2.shape
  unfold maxLen at hc2 hd2
  have hBel := below_alloc2 w (.cells #[.int .i64 n1, .slice ao a.length cap] 99) (.cells #[.int .i64 n2, .slice bo b.length cap2] 99)
  have hM1 := Blk.at0of2 w (.cells #[.int .i64 n2, .slice bo b.length cap2] 99) 99 #[.int .i64 n1, .slice ao a.length cap]
  have HBEL := hide hBel
  have HM1 := hide hM1
  have HL := hide hl
  clear h1 h2 ha hb hs hBel hM1 hl
  go_enter Try.func65, Try.ntmps65
  go_wp2_with fail
  go_loopw [12] (fun iv wr => ∃ j : Nat, j ≤ b.length ∧ iv = .int .i64 j ∧ slowGo (trustD span) (a.drop j) (b.drop j) = slowGo (trustD span) a b ∧ Below (w.heap.size + 2) ((w.alloc (.cells #[.int .i64 n1, .slice ao a.length cap] 99)).alloc (.cells #[.int .i64 n2, .slice bo b.length cap2] 99)) wr)
    (fun iv _ => b.length - (intOf iv).toNat)
  case atStart => exact ⟨0, by omega, rfl, rfl, Below.refl _ _⟩
  case round =>
    obtain ⟨j, hj, rfl, hgo, hbr⟩ := hrel
    have HGO := hide hgo
    have hbw := HBEL.out.trans (hbr.mono (by omega))
    have HBW := hide hbw
    have HBR := hide hbr
    clear hgo
    by_cases hlt : j < b.length
    · have hla := HL.out
      obtain ⟨y, hy⟩ : ∃ y, b[j]? = some y := ⟨_, List.getElem?_eq_getElem hlt⟩
      obtain ⟨x, hx⟩ : ∃ x, a[j]? = some x := ⟨_, List.getElem?_eq_getElem (by omega)⟩
      rw [drop_consZ hx, drop_consZ hy, slowGo] at HGO
      obtain ⟨b1, o1, rfl, hb1, q1⟩ := HA.out.hereI hx
      obtain ⟨b2, o2, rfl, hb2, q2⟩ := HB.out.hereI hy
      have p1 := cell_belowG q1 hbw
      have p2 := cell_belowG q2 hbw
      have hx2 := HCA.out x (List.mem_of_getElem? hx)
      have hy2 := HCB.out y (List.mem_of_getElem? hy)
      have hw1 : IntKind.i64.wrap (y - x) = y - x := by rw [IntKind.wrap_i64]; omega
      have hk1 : (0 : Int) ≤ (j : Int) := by omega
      have hk2 : (j : Int) < (b.length : Int) := by omega
      have hk3 : (j : Int) < (a.length : Int) := by omega
      obtain ⟨m0, m1, mz0, mz1, ml⟩ := (show wr.cell? ⟨w.heap.size, 0, none⟩ = some (.int .i64 n1) ∧ wr.cell? ⟨w.heap.size, 1, none⟩ = some (.slice (some ⟨b1, o1, none⟩) a.length cap) ∧ wr.frozen? ⟨w.heap.size, 0, none⟩ = false ∧ wr.frozen? ⟨w.heap.size, 1, none⟩ = false ∧ w.heap.size < wr.heap.size from by
        have := HM1.out.below hbr (by omega)
        exact ⟨this.cell 0, this.cell 1, this.frozen 0, this.frozen 1, this.lt⟩)
      have hb1' : b1 < wr.heap.size := Nat.lt_of_lt_of_le hb1 hbw.size
      have hb2' : b2 < wr.heap.size := Nat.lt_of_lt_of_le hb2 hbw.size
      clear q1 q2 hx hy hx2 hy2 hbw hbr hla
      by_cases hsl : y - x < trustD span
      · have HE := hide (show slowGo (trustD span) a b = true by rw [← HGO.out, decide_eq_true hsl, Bool.true_or])
        go_wp2_with fail
        go_quiet (first | (go_at_call 47; exact Calls.quiet_of_same (HT.out _)) | (go_at_call 47; exact quiet_addG ((HT.out _).mono fun _ _ ⟨h, h'⟩ => ⟨h, 0, h'⟩)))
        go_wp2_with fail
        go_ret
        exact ⟨by rw [HE.out]; rfl, below_drewN HBW.out _⟩
      · have HE := hide (show slowGo (trustD span) (a.drop (j + 1)) (b.drop (j + 1)) = slowGo (trustD span) a b by rw [← HGO.out, decide_eq_false hsl, Bool.false_or])
        go_wp2_with fail
        go_quiet (first | (go_at_call 47; exact Calls.quiet_of_same (HT.out _)) | (go_at_call 47; exact quiet_addG ((HT.out _).mono fun _ _ ⟨h, h'⟩ => ⟨h, 0, h'⟩)))
        go_wp2_with fail
        go_roundw
        case rel => exact ⟨j + 1, by omega, by go_num, HE.out, below_drewN HBR.out _⟩
        case measure => simp [intOf]; omega
    · have hje : j = b.length := by omega
      subst hje
      have hq : slowGo (trustD span) a b = false := by
        rw [← HGO.out, List.drop_length]
        cases a.drop b.length <;> rfl
      have HE := hide hq
      clear hq hbw hbr
      go_wp2_with fail
      go_ret
      exact ⟨by rw [HE.out]; rfl, HBW.out⟩

end Go.Proofs.Ytfmoniabpinceaf
