/-
  The walks over package disk: Recover; the document's comparison of disks; the example.
-/
import Derived.Test.YtdiflcodpnjljabDiskW3
namespace Go.Proofs.Ytdiflcodpnjljab
open Go.RowKit

theorem openGo_le : ∀ (f k : Nat) (bs : List UInt8) (acc : List (List UInt8)), bs.length ≤ f → (openGo (f + 1) bs acc k).2.2 = 0 → 0 ≤ (openGo (f + 1) bs acc k).2.1 ∧ (openGo (f + 1) bs acc k).2.1 ≤ (k + bs.length : Nat)
  | 0, k, bs, acc, h, _ => by
    have : frameAt bs = none := frameAt_short (by omega)
    rw [openGo_end this]
    simp only
    omega
  | f + 1, k, bs, acc, h, hz => by
    cases hn : frameAt bs with
    | none => rw [openGo_end hn]; simp only; omega
    | some body =>
      have hl := frameAt_len hn
      by_cases hm : acc.length = 1000
      · rw [openGo_many hn hm] at hz
        cases hz
      · rw [openGo_step hn hm] at hz ⊢
        have := openGo_le f (k + (body.length + 6)) (bs.drop (body.length + 6)) _ (by rw [List.length_drop]; omega) hz
        rw [List.length_drop] at this
        omega

theorem openR_le {bs : List UInt8} (h : (openR bs).2.2 = 0) : 0 ≤ (openR bs).2.1 ∧ (openR bs).2.1 ≤ (bs.length : Int) := by
  unfold openR at h ⊢
  split at h
  · cases h
  · rename_i hb
    rw [if_neg hb]
    have := openGo_le _ 0 bs [] (Nat.le_refl _) h
    omega

/-- What Recover comes to: bytes, Kept, bodies, code. -/
def recoverR (bs : List UInt8) (k : Int) : List UInt8 × Int × List (List UInt8) × Int :=
  if checkR bs k ≠ 0 then ([], 0, [], checkR bs k) else if (openR bs).2.2 ≠ 0 then ([], 0, [], (openR bs).2.2) else (bs.take (openR bs).2.1.toNat, (openR bs).2.1, (openR bs).1, 0)
theorem recoverR_bad {bs : List UInt8} {k : Int} (h : checkR bs k ≠ 0) : recoverR bs k = ([], 0, [], checkR bs k) := by rw [recoverR, if_pos h]
theorem recoverR_out {bs : List UInt8} {k : Int} (h : checkR bs k = 0) (h2 : (openR bs).2.2 ≠ 0) : recoverR bs k = ([], 0, [], (openR bs).2.2) := by rw [recoverR, if_neg (by omega), if_pos h2]
theorem recoverR_ok {bs : List UInt8} {k : Int} (h : checkR bs k = 0) (h2 : (openR bs).2.2 = 0) : recoverR bs k = (bs.take (openR bs).2.1.toNat, (openR bs).2.1, (openR bs).1, 0) := by rw [recoverR, if_neg (by omega), if_neg (by omega)]
theorem trimR_open {bs : List UInt8} {k : Int} (h : checkR bs k = 0) (h2 : (openR bs).2.2 = 0) : trimR bs k (openR bs).2.1 = (bs.take (openR bs).2.1.toNat, (openR bs).2.1, 0, 0) := by
  have := openR_le h2
  rw [trimR, if_neg (by omega), if_neg (by omega)]

theorem Tb.set {w : World} {B : Nat} {t : TypeId} {x y : Value} (h : Tb w B t x y) (x' y' : Value) : Tb ((w.setCell ⟨B, 0, none⟩ x').setCell ⟨B, 1, none⟩ y') B t x' y' := by
  unfold Tb
  rw [heap_setCell_same _ B 1 #[x', y] _ y']
  · rfl
  · rw [heap_setCell_same _ B 0 _ _ x' h]
    rfl

theorem Tb.far {w : World} {B : Nat} {t : TypeId} {x y : Value} (h : Tb w B t x y) {p : Addr} (hp : B ≠ p.block) (u : Value) : Tb (w.setCell p u) B t x y := by
  unfold Tb
  rw [heap_setCell_other w p _ u hp]
  exact h

theorem RdBN.mono {w : World} {B B' : Nat} {v : Value} {bb : List (List UInt8)} (h : RdBN w B v bb) (hb : B' ≤ B) : RdBN w B' v bb := by
  obtain ⟨vs, h1, h2, h3, h4⟩ := h
  exact ⟨vs, h1, h2.mono hb, h3, fun i u b hu hb' => ⟨(h4 i u b hu hb').1, (h4 i u b hu hb').2.mono hb⟩⟩

theorem RdBN.shape {w : World} {B : Nat} {v : Value} {bb : List (List UInt8)} (h : RdBN w B v bb) : ∃ ao cap, v = .slice ao bb.length cap ∧ bb.length ≤ cap ∧ cap ≤ maxLen := by
  obtain ⟨vs, h1, h2, h3, h4⟩ := h
  rw [← h3]
  exact h1.shape


set_option maxRecDepth 100000 in
set_option maxHeartbeats 400000 in
theorem SameDisk_any (u v : Value) (xs ys : List UInt8) (k m : Int) (w : World) (h1 : Rd w u (bc xs)) (h2 : Rd w v (bc ys)) :
    Calls Try.prog 19 #[dsk u k, dsk v m] w fun e w' => e = .returned (.bool (k == m && xs == ys)) ∧ Below w.heap.size w w' := by
  obtain ⟨ao, cap, hu, hc1, hc2⟩ := h1.shape
  obtain ⟨bo, cbp, hv, hd1, hd2⟩ := h2.shape
  rw [bc_length] at hc1 hu hd1 hv
  subst hu hv
  unfold dsk
  go_enter Try.func19, Try.ntmps19
  by_cases hk : k = m
  · have hkb : (k == m) = true := beq_iff_eq.2 hk
    clear hk
    go_wp2_with fail
    refine (Same_any _ _ xs ys _ ((h1.alloc _).alloc _) ((h2.alloc _).alloc _)).mono ?_
    rintro e w1 ⟨rfl, rfl⟩
    go_wp2_with fail
    go_ret
    exact ⟨by rw [hkb]; rfl, by go_grown⟩
  · have hkb : (k == m) = false := beq_eq_false_iff_ne.2 hk
    clear hk
    go_wp2_with fail
    go_ret
    exact ⟨by rw [hkb]; rfl, by go_grown⟩

end Go.Proofs.Ytdiflcodpnjljab
