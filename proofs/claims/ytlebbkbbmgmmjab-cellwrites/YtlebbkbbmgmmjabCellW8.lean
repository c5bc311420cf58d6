/-
  The walks over cell.readCell and cell.Read.
-/
import Derived.Test.YtlebbkbbmgmmjabCellW7
namespace Go.Proofs.Ytlebbkbbmgmmjab
open Go.RowKit

/-- Text, whatever is there: the text, whether one is, and where the reader stands then. -/
theorem Text_ex (t : TypeId) (R : Nat) (v : Value) (bs : List UInt8) (k : Nat) (w : World) (hrd : Rd w v (bc bs)) (hblk : ∀ a l c, v = .slice (some a) l c → 0 < (bc bs).length → a.block ≠ R) (hr : RdrT w t R v k) (hk : k ≤ bs.length) :
    Calls Try.prog 82 #[.pointer (some ⟨R, 0, none⟩)] w fun e w' => ∃ (s : List UInt8) (b : Bool) (m : Nat), e = .returned (.tuple #[.string ⟨s.toArray⟩, .bool b]) ∧ k + m ≤ bs.length ∧ RdrT w' t R v (k + m : Nat) ∧ w.grownBy w' (some R) ∧ (b = true → textAt (bs.drop k) = some (s, m)) ∧ (b = false → textAt (bs.drop k) = none) := by
  cases h : textAt (bs.drop k) with
  | none => exact (Text_none t R v bs k w hrd hblk hr hk h).mono fun e w' ⟨h1, h2, h3⟩ => ⟨[], false, 0, h1, by omega, h2, h3, (fun h => by cases h), fun _ => rfl⟩
  | some p =>
    obtain ⟨s, m⟩ := p
    have hl := textAt_len h
    rw [List.length_drop] at hl
    exact (Text_some t R v bs s k m w hrd hblk hr hk h).mono fun e w' ⟨h1, h2, h3⟩ => ⟨s, true, m, h1, by omega, h2, h3, (fun _ => rfl), fun h => by cases h⟩

theorem Num_ex (t : TypeId) (R : Nat) (v : Value) (bs : List UInt8) (k : Nat) (w : World) (hrd : Rd w v (bc bs)) (hr : RdrT w t R v k) (hk : k ≤ bs.length) :
    Calls Try.prog 83 #[.pointer (some ⟨R, 0, none⟩)] w fun e w' => ∃ (n : Nat) (b : Bool) (m : Nat), e = .returned (.tuple #[.int .i64 n, .bool b]) ∧ n ≤ 1000000000 ∧ k + m ≤ bs.length ∧ RdrT w' t R v (k + m : Nat) ∧ w.grownBy w' (some R) ∧ (b = true → numAt (bs.drop k) = some (n, m)) ∧ (b = false → numAt (bs.drop k) = none) := by
  refine (Num_any t R v bs k w hrd hr hk).mono ?_
  rintro e w' ⟨h1, h2, h3⟩
  cases h : numAt (bs.drop k) with
  | none =>
    rw [h] at h1 h2
    exact ⟨0, false, 0, h1, by omega, by omega, h2, h3, (fun h => by cases h), fun _ => rfl⟩
  | some p =>
    obtain ⟨n, m⟩ := p
    rw [h] at h1 h2
    have hl := numAt_len h
    rw [List.length_drop] at hl
    exact ⟨n, true, m, h1, hl.2.2, by omega, h2, h3, (fun _ => rfl), fun h => by cases h⟩

theorem RdrT.other {w : World} {t : TypeId} {R : Nat} {v : Value} {k : Int} (h : RdrT w t R v k) {p : Addr} (hp : p.block ≠ R) (u : Value) : RdrT (w.setCell p u) t R v k := by
  unfold RdrT
  rw [heap_setCell_other w p R u (fun e => hp e.symm)]
  exact h

theorem gb_setNew {a w : World} {o : Option Nat} (h : a.grownBy w o) {p : Addr} (hp : a.heap.size ≤ p.block) (u : Value) : a.grownBy (w.setCell p u) o :=
  ⟨h.os, h.tape, h.output, by rw [World.setCell]; simp [h.size], fun k hk hn => (heap_setCell_other w p k u (by omega)).trans (h.block k hk hn)⟩

/-- What readCell answers. -/
def rawPost (w w' : World) (e : Ending) (t : TypeId) (R : Nat) (v : Value) (k len : Nat) : Option (Cl × Nat) → Prop
  | none => e = .returned (.tuple #[cA zeroC, .bool false]) ∧ ∃ k' : Nat, k' ≤ len ∧ RdrT w' t R v k' ∧ w.grownBy w' (some R)
  | some (c, m) => e = .returned (.tuple #[cA c, .bool true]) ∧ RdrT w' t R v (k + m : Nat) ∧ w.grownBy w' (some R)

set_option maxRecDepth 100000 in
set_option maxHeartbeats 1000000 in
theorem readCell_any (t : TypeId) (R : Nat) (v : Value) (bs : List UInt8) (k : Nat) (w : World) (hrd : Rd w v (bc bs)) (hblk : ∀ a l c, v = .slice (some a) l c → 0 < (bc bs).length → a.block ≠ R) (hr : RdrT w t R v k) (hk : k ≤ bs.length) :
    Calls Try.prog 65 #[.pointer (some ⟨R, 0, none⟩)] w fun e w' => rawPost w w' e t R v k bs.length (rawAt (bs.drop k)) := by
  have hRlt := hr.facts.2.2.2.2
  have hrd0 := hrd.alloc (.cells #[.string ⟨#[]⟩, .string ⟨#[]⟩, .int .i64 0, .bool false, .string ⟨#[]⟩] 52)
  have hr0 : RdrT (w.alloc (.cells #[.string ⟨#[]⟩, .string ⟨#[]⟩, .int .i64 0, .bool false, .string ⟨#[]⟩] 52)) t R v k := by
    unfold RdrT
    rw [Below.heap_alloc _ _ _ hRlt]
    exact hr
  have hB0 : Bk (w.alloc (.cells #[.string ⟨#[]⟩, .string ⟨#[]⟩, .int .i64 0, .bool false, .string ⟨#[]⟩] 52)) w.heap.size 52 (ca zeroC) := Bk.new _ _ _
  have hg0 : w.grownBy (w.alloc (.cells #[.string ⟨#[]⟩, .string ⟨#[]⟩, .int .i64 0, .bool false, .string ⟨#[]⟩] 52)) (some R) := gb_alloc (gb_refl _ _) _
  go_enter Try.func65, Try.ntmps65
  go_wp2_with fail
  refine (Text_ex t R v bs k _ hrd0 hblk hr0 hk).mono ?_
  rintro e w1 ⟨s1, b1, m1, rfl, hk1, hr1, hg1, hT1, hF1⟩
  have hrd1 := hrd0.grownT hg1 hblk
  have hB1 := hB0.grown hg1 (by simp; omega)
  have hw1 := grownT_trans hg0 hg1
  clear hrd0 hr0 hB0 hg0 hg1
  go_wp2_with fail
  refine (Text_ex t R v bs (k + m1) _ hrd1 hblk hr1 hk1).mono ?_
  rintro e w2 ⟨s2, b2, m2, rfl, hk2, hr2, hg2, hT2, hF2⟩
  have hrd2 := hrd1.grownT hg2 hblk
  have hB2 := hB1.grown hg2 (by simp; omega)
  have hw2 := grownT_trans hw1 hg2
  clear hrd1 hr1 hB1 hw1 hg2
  go_wp2_with fail
  refine (Num_ex t R v bs (k + m1 + m2) _ hrd2 hr2 hk2).mono ?_
  rintro e w3 ⟨n3, b3, m3, rfl, hn3, hk3, hr3, hg3, hT3, hF3⟩
  have hrd3 := hrd2.grownT hg3 hblk
  have hB3 := hB2.grown hg3 (by simp; omega)
  have hw3 := grownT_trans hw2 hg3
  clear hrd2 hr2 hB2 hw2 hg3
  go_wp2_with fail
  refine (Num_ex t R v bs (k + m1 + m2 + m3) _ hrd3 hr3 hk3).mono ?_
  rintro e w4 ⟨n4, b4, m4, rfl, hn4, hk4, hr4, hg4, hT4, hF4⟩
  have hrd4 := hrd3.grownT hg4 hblk
  have hB4 := hB3.grown hg4 (by simp; omega)
  have hw4 := grownT_trans hw3 hg4
  clear hrd3 hr3 hB3 hw3 hg4
  go_wp2_with fail
  refine (Text_ex t R v bs (k + m1 + m2 + m3 + m4) _ hrd4 hblk hr4 hk4).mono ?_
  rintro e w5 ⟨s5, b5, m5, rfl, hk5, hr5, hg5, hT5, hF5⟩
  have hB5 := hB4.grown hg5 (by simp; omega)
  have hw5 := grownT_trans hw4 hg5
  clear hrd4 hr4 hB4 hw4 hg5 hrd hr
  simp only [← List.drop_drop] at hT2 hF2 hT3 hF3 hT4 hF4 hT5 hF5
  generalize hds : bs.drop k = ds at *
  have hT3' : b3 = true → numAt (ds.drop (m1 + m2)) = some (n3, m3) := fun h => by have := hT3 h; simpa only [List.drop_drop] using this
  have hF3' : b3 = false → numAt (ds.drop (m1 + m2)) = none := fun h => by have := hF3 h; simpa only [List.drop_drop] using this
  have hT4' : b4 = true → numAt (ds.drop (m1 + m2 + m3)) = some (n4, m4) := fun h => by have := hT4 h; simpa only [List.drop_drop] using this
  have hF4' : b4 = false → numAt (ds.drop (m1 + m2 + m3)) = none := fun h => by have := hF4 h; simpa only [List.drop_drop] using this
  have hT5' : b5 = true → textAt (ds.drop (m1 + m2 + m3 + m4)) = some (s5, m5) := fun h => by have := hT5 h; simpa only [List.drop_drop] using this
  have hF5' : b5 = false → textAt (ds.drop (m1 + m2 + m3 + m4)) = none := fun h => by have := hF5 h; simpa only [List.drop_drop] using this
  have HDS := hide hds
  clear hT3 hF3 hT4 hF4 hT5 hF5 hds
  have hc0 := hB5.cell 0
  have hc1 := hB5.cell 1
  have hc2 := hB5.cell 2
  have hc3 := hB5.cell 3
  have hc4 := hB5.cell 4
  have hfz := hB5.thaw
  obtain ⟨f0, f1, f2, f3, f4⟩ := hfz
  have hsz5 := hB5.lt
  simp [ca, zeroC] at hc0 hc1 hc2 hc3 hc4
  have hall : (rawAt ds = none ∧ (b1 = false ∨ b1 = true ∧ b2 = false ∨ b1 = true ∧ b2 = true ∧ b3 = false ∨ b1 = true ∧ b2 = true ∧ b3 = true ∧ b4 = false ∨ b1 = true ∧ b2 = true ∧ b3 = true ∧ b4 = true ∧ (1 : Int) < n4 ∨ b1 = true ∧ b2 = true ∧ b3 = true ∧ b4 = true ∧ (n4 : Int) ≤ 1 ∧ b5 = false)) ∨
      (b1 = true ∧ b2 = true ∧ b3 = true ∧ b4 = true ∧ (n4 : Int) ≤ 1 ∧ b5 = true ∧ rawAt ds = some (⟨⟨s1.toArray⟩, ⟨s2.toArray⟩, (n3 : Int), n4 == 1, ⟨s5.toArray⟩⟩, m1 + m2 + m3 + m4 + m5)) := by
    cases b1
    · exact .inl ⟨rawAt_1 (hF1 rfl), .inl rfl⟩
    · cases b2
      · exact .inl ⟨rawAt_2 (hT1 rfl) (hF2 rfl), by simp⟩
      · cases b3
        · exact .inl ⟨rawAt_3 (hT1 rfl) (hT2 rfl) (hF3' rfl), by simp⟩
        · cases b4
          · exact .inl ⟨rawAt_4 (hT1 rfl) (hT2 rfl) (hT3' rfl) (hF4' rfl), by simp⟩
          · by_cases h1 : 1 < n4
            · exact .inl ⟨rawAt_5 (hT1 rfl) (hT2 rfl) (hT3' rfl) (hT4' rfl) h1, by simp; omega⟩
            · cases b5
              · exact .inl ⟨rawAt_6 (hT1 rfl) (hT2 rfl) (hT3' rfl) (hT4' rfl) (hF5' rfl), by simp; omega⟩
              · exact .inr ⟨rfl, rfl, rfl, rfl, by omega, rfl, rawAt_ok (hT1 rfl) (hT2 rfl) (hT3' rfl) (hT4' rfl) h1 (hT5' rfl)⟩
  clear hT1 hF1 hT2 hF2 hT3' hF3' hT4' hF4' hT5' hF5'
  rcases hall with ⟨hE, h | ⟨h1, h⟩ | ⟨h1, h2, h⟩ | ⟨h1, h2, h3, h⟩ | ⟨h1, h2, h3, h4, h⟩ | ⟨h1, h2, h3, h4, h5, h⟩⟩ | ⟨h1, h2, h3, h4, h5, h6, hE⟩
  iterate 6
    · have HE := hide hE
      clear hE
      subst_vars
      go_wp2_with fail
      refine bodyPost_ret (v := .tuple #[cA zeroC, .bool false]) (by simp [results, Try.results65, go_sem, cA, zeroC, hc0, hc1, hc2, hc3, hc4]) rfl ?_
      rw [HE.out]
      refine ⟨rfl, k + m1 + m2 + m3 + m4 + m5, by omega, ?_, ?_⟩
      · exact ((((hr5.other (by simp; omega) _).other (by simp; omega) _).other (by simp; omega) _).other (by simp; omega) _).other (by simp; omega) _
      · exact gb_setNew (gb_setNew (gb_setNew (gb_setNew (gb_setNew hw5 (Nat.le_refl _) _) (Nat.le_refl _) _) (Nat.le_refl _) _) (Nat.le_refl _) _) (Nat.le_refl _) _
  · have HE := hide hE
    clear hE
    subst_vars
    go_wp2_with fail
    refine bodyPost_ret (v := .tuple #[cA ⟨⟨s1.toArray⟩, ⟨s2.toArray⟩, (n3 : Int), n4 == 1, ⟨s5.toArray⟩⟩, .bool true]) (by simp [results, Try.results65, go_sem, cA, hc0, hc1, hc2, hc3, hc4]; rw [Bool.eq_iff_iff]; simp; omega) rfl ?_
    rw [HE.out]
    have hr6 : RdrT w5 t R v (k + (m1 + m2 + m3 + m4 + m5) : Nat) := by
      rw [show k + (m1 + m2 + m3 + m4 + m5) = k + m1 + m2 + m3 + m4 + m5 by omega]
      exact hr5
    refine ⟨rfl, ?_, ?_⟩
    · exact ((((hr6.other (by simp; omega) _).other (by simp; omega) _).other (by simp; omega) _).other (by simp; omega) _).other (by simp; omega) _
    · exact gb_setNew (gb_setNew (gb_setNew (gb_setNew (gb_setNew hw5 (Nat.le_refl _) _) (Nat.le_refl _) _) (Nat.le_refl _) _) (Nat.le_refl _) _) (Nat.le_refl _) _

end Go.Proofs.Ytlebbkbbmgmmjab
