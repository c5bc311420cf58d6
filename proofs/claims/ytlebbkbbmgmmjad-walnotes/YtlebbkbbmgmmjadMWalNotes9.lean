/-
  Texts joined: CellW8, CellW9, WalW1, WalW2, CellB1, CellR1, CellR2.
-/
import Derived.Test.YtlebbkbbmgmmjadMWalNotes8
/-
  The walks over cell.readCell and cell.Read.
-/
namespace Go.Proofs.Ytlebbkbbmgmmjad
open Go.RowKit

/-- Text, whatever is there: the text, whether one is, and where the reader stands then. -/
theorem Text_ex (t : TypeId) (R : Nat) (v : Value) (bs : List UInt8) (k : Nat) (w : World) (hrd : Rd w v (bc bs)) (hblk : ∀ a l c, v = .slice (some a) l c → 0 < (bc bs).length → a.block ≠ R) (hr : RdrT w t R v k) (hk : k ≤ bs.length) :
    Calls Try.prog 120 #[.pointer (some ⟨R, 0, none⟩)] w fun e w' => ∃ (s : List UInt8) (b : Bool) (m : Nat), e = .returned (.tuple #[.string ⟨s.toArray⟩, .bool b]) ∧ k + m ≤ bs.length ∧ RdrT w' t R v (k + m : Nat) ∧ w.grownBy w' (some R) ∧ (b = true → textAt (bs.drop k) = some (s, m)) ∧ (b = false → textAt (bs.drop k) = none) := by
  cases h : textAt (bs.drop k) with
  | none => exact (Text_none t R v bs k w hrd hblk hr hk h).mono fun e w' ⟨h1, h2, h3⟩ => ⟨[], false, 0, h1, by omega, h2, h3, (fun h => by cases h), fun _ => rfl⟩
  | some p =>
    obtain ⟨s, m⟩ := p
    have hl := textAt_len h
    rw [List.length_drop] at hl
    exact (Text_some t R v bs s k m w hrd hblk hr hk h).mono fun e w' ⟨h1, h2, h3⟩ => ⟨s, true, m, h1, by omega, h2, h3, (fun _ => rfl), fun h => by cases h⟩

theorem Num_ex (t : TypeId) (R : Nat) (v : Value) (bs : List UInt8) (k : Nat) (w : World) (hrd : Rd w v (bc bs)) (hr : RdrT w t R v k) (hk : k ≤ bs.length) :
    Calls Try.prog 68 #[.pointer (some ⟨R, 0, none⟩)] w fun e w' => ∃ (n : Nat) (b : Bool) (m : Nat), e = .returned (.tuple #[.int .i64 n, .bool b]) ∧ n ≤ 1000000000 ∧ k + m ≤ bs.length ∧ RdrT w' t R v (k + m : Nat) ∧ w.grownBy w' (some R) ∧ (b = true → numAt (bs.drop k) = some (n, m)) ∧ (b = false → numAt (bs.drop k) = none) := by
  refine (Num_any t R v bs k w hrd hr hk).mono ?_
  rintro e w' ⟨h1, h2, h3⟩
  cases h : numAt (bs.drop k) with
  | none =>
    rw [h] at h1 h2
    exact ⟨0, false, 0, h1, by omega, by omega, h2, h3, (fun h => by cases h), fun _ => rfl⟩
  | some p =>
    obtain ⟨n, m⟩ := p
    rw [h] at h1 h2
    have hl := numAt_len h
    rw [List.length_drop] at hl
    exact ⟨n, true, m, h1, hl.2.2, by omega, h2, h3, (fun _ => rfl), fun h => by cases h⟩

theorem RdrT.other {w : World} {t : TypeId} {R : Nat} {v : Value} {k : Int} (h : RdrT w t R v k) {p : Addr} (hp : p.block ≠ R) (u : Value) : RdrT (w.setCell p u) t R v k := by
  unfold RdrT
  rw [heap_setCell_other w p R u (fun e => hp e.symm)]
  exact h

theorem gb_setNew {a w : World} {o : Option Nat} (h : a.grownBy w o) {p : Addr} (hp : a.heap.size ≤ p.block) (u : Value) : a.grownBy (w.setCell p u) o :=
  ⟨h.os, h.tape, h.output, by rw [World.setCell]; simp [h.size], fun k hk hn => (heap_setCell_other w p k u (by omega)).trans (h.block k hk hn)⟩

/-- What readCell answers. -/
def rawPost (w w' : World) (e : Ending) (t : TypeId) (R : Nat) (v : Value) (k len : Nat) : Option (Cl × Nat) → Prop
  | none => e = .returned (.tuple #[cA zeroC, .bool false]) ∧ ∃ k' : Nat, k' ≤ len ∧ RdrT w' t R v k' ∧ w.grownBy w' (some R)
  | some (c, m) => e = .returned (.tuple #[cA c, .bool true]) ∧ RdrT w' t R v (k + m : Nat) ∧ w.grownBy w' (some R)

set_option maxRecDepth 100000 in
set_option maxHeartbeats 1000000 in
theorem readCell_any (t : TypeId) (R : Nat) (v : Value) (bs : List UInt8) (k : Nat) (w : World) (hrd : Rd w v (bc bs)) (hblk : ∀ a l c, v = .slice (some a) l c → 0 < (bc bs).length → a.block ≠ R) (hr : RdrT w t R v k) (hk : k ≤ bs.length) :
    Calls Try.prog 102 #[.pointer (some ⟨R, 0, none⟩)] w fun e w' => rawPost w w' e t R v k bs.length (rawAt (bs.drop k)) := by
  have hRlt := hr.facts.2.2.2.2
  have hrd0 := hrd.alloc (.cells #[.string ⟨#[]⟩, .string ⟨#[]⟩, .int .i64 0, .bool false, .string ⟨#[]⟩] 91)
  have hr0 : RdrT (w.alloc (.cells #[.string ⟨#[]⟩, .string ⟨#[]⟩, .int .i64 0, .bool false, .string ⟨#[]⟩] 91)) t R v k := by
    unfold RdrT
    rw [Below.heap_alloc _ _ _ hRlt]
    exact hr
  have hB0 : Bk (w.alloc (.cells #[.string ⟨#[]⟩, .string ⟨#[]⟩, .int .i64 0, .bool false, .string ⟨#[]⟩] 91)) w.heap.size 91 (ca zeroC) := Bk.new _ _ _
  have hg0 : w.grownBy (w.alloc (.cells #[.string ⟨#[]⟩, .string ⟨#[]⟩, .int .i64 0, .bool false, .string ⟨#[]⟩] 91)) (some R) := gb_alloc (gb_refl _ _) _
  go_enter Try.func102, Try.ntmps102
  go_wp2_with fail
  refine (Text_ex t R v bs k _ hrd0 hblk hr0 hk).mono ?_
  rintro e w1 ⟨s1, b1, m1, rfl, hk1, hr1, hg1, hT1, hF1⟩
  have hrd1 := hrd0.grownT hg1 hblk
  have hB1 := hB0.grown hg1 (by simp; omega)
  have hw1 := grownT_trans hg0 hg1
  clear hrd0 hr0 hB0 hg0 hg1
  go_wp2_with fail
  refine (Text_ex t R v bs (k + m1) _ hrd1 hblk hr1 hk1).mono ?_
  rintro e w2 ⟨s2, b2, m2, rfl, hk2, hr2, hg2, hT2, hF2⟩
  have hrd2 := hrd1.grownT hg2 hblk
  have hB2 := hB1.grown hg2 (by simp; omega)
  have hw2 := grownT_trans hw1 hg2
  clear hrd1 hr1 hB1 hw1 hg2
  go_wp2_with fail
  refine (Num_ex t R v bs (k + m1 + m2) _ hrd2 hr2 hk2).mono ?_
  rintro e w3 ⟨n3, b3, m3, rfl, hn3, hk3, hr3, hg3, hT3, hF3⟩
  have hrd3 := hrd2.grownT hg3 hblk
  have hB3 := hB2.grown hg3 (by simp; omega)
  have hw3 := grownT_trans hw2 hg3
  clear hrd2 hr2 hB2 hw2 hg3
  go_wp2_with fail
  refine (Num_ex t R v bs (k + m1 + m2 + m3) _ hrd3 hr3 hk3).mono ?_
  rintro e w4 ⟨n4, b4, m4, rfl, hn4, hk4, hr4, hg4, hT4, hF4⟩
  have hrd4 := hrd3.grownT hg4 hblk
  have hB4 := hB3.grown hg4 (by simp; omega)
  have hw4 := grownT_trans hw3 hg4
  clear hrd3 hr3 hB3 hw3 hg4
  go_wp2_with fail
  refine (Text_ex t R v bs (k + m1 + m2 + m3 + m4) _ hrd4 hblk hr4 hk4).mono ?_
  rintro e w5 ⟨s5, b5, m5, rfl, hk5, hr5, hg5, hT5, hF5⟩
  have hB5 := hB4.grown hg5 (by simp; omega)
  have hw5 := grownT_trans hw4 hg5
  clear hrd4 hr4 hB4 hw4 hg5 hrd hr
  simp only [← List.drop_drop] at hT2 hF2 hT3 hF3 hT4 hF4 hT5 hF5
  generalize hds : bs.drop k = ds at *
  have hT3' : b3 = true → numAt (ds.drop (m1 + m2)) = some (n3, m3) := fun h => by have := hT3 h; simpa only [List.drop_drop] using this
  have hF3' : b3 = false → numAt (ds.drop (m1 + m2)) = none := fun h => by have := hF3 h; simpa only [List.drop_drop] using this
  have hT4' : b4 = true → numAt (ds.drop (m1 + m2 + m3)) = some (n4, m4) := fun h => by have := hT4 h; simpa only [List.drop_drop] using this
  have hF4' : b4 = false → numAt (ds.drop (m1 + m2 + m3)) = none := fun h => by have := hF4 h; simpa only [List.drop_drop] using this
  have hT5' : b5 = true → textAt (ds.drop (m1 + m2 + m3 + m4)) = some (s5, m5) := fun h => by have := hT5 h; simpa only [List.drop_drop] using this
  have hF5' : b5 = false → textAt (ds.drop (m1 + m2 + m3 + m4)) = none := fun h => by have := hF5 h; simpa only [List.drop_drop] using this
  have HDS := hide hds
  clear hT3 hF3 hT4 hF4 hT5 hF5 hds
  have hc0 := hB5.cell 0
  have hc1 := hB5.cell 1
  have hc2 := hB5.cell 2
  have hc3 := hB5.cell 3
  have hc4 := hB5.cell 4
  have hfz := hB5.thaw
  obtain ⟨f0, f1, f2, f3, f4⟩ := hfz
  have hsz5 := hB5.lt
  simp [ca, zeroC] at hc0 hc1 hc2 hc3 hc4
  have hall : (rawAt ds = none ∧ (b1 = false ∨ b1 = true ∧ b2 = false ∨ b1 = true ∧ b2 = true ∧ b3 = false ∨ b1 = true ∧ b2 = true ∧ b3 = true ∧ b4 = false ∨ b1 = true ∧ b2 = true ∧ b3 = true ∧ b4 = true ∧ (1 : Int) < n4 ∨ b1 = true ∧ b2 = true ∧ b3 = true ∧ b4 = true ∧ (n4 : Int) ≤ 1 ∧ b5 = false)) ∨
      (b1 = true ∧ b2 = true ∧ b3 = true ∧ b4 = true ∧ (n4 : Int) ≤ 1 ∧ b5 = true ∧ rawAt ds = some (⟨⟨s1.toArray⟩, ⟨s2.toArray⟩, (n3 : Int), n4 == 1, ⟨s5.toArray⟩⟩, m1 + m2 + m3 + m4 + m5)) := by
    cases b1
    · exact .inl ⟨rawAt_1 (hF1 rfl), .inl rfl⟩
    · cases b2
      · exact .inl ⟨rawAt_2 (hT1 rfl) (hF2 rfl), by simp⟩
      · cases b3
        · exact .inl ⟨rawAt_3 (hT1 rfl) (hT2 rfl) (hF3' rfl), by simp⟩
        · cases b4
          · exact .inl ⟨rawAt_4 (hT1 rfl) (hT2 rfl) (hT3' rfl) (hF4' rfl), by simp⟩
          · by_cases h1 : 1 < n4
            · exact .inl ⟨rawAt_5 (hT1 rfl) (hT2 rfl) (hT3' rfl) (hT4' rfl) h1, by simp; omega⟩
            · cases b5
              · exact .inl ⟨rawAt_6 (hT1 rfl) (hT2 rfl) (hT3' rfl) (hT4' rfl) (hF5' rfl), by simp; omega⟩
              · exact .inr ⟨rfl, rfl, rfl, rfl, by omega, rfl, rawAt_ok (hT1 rfl) (hT2 rfl) (hT3' rfl) (hT4' rfl) h1 (hT5' rfl)⟩
  clear hT1 hF1 hT2 hF2 hT3' hF3' hT4' hF4' hT5' hF5'
  rcases hall with ⟨hE, h | ⟨h1, h⟩ | ⟨h1, h2, h⟩ | ⟨h1, h2, h3, h⟩ | ⟨h1, h2, h3, h4, h⟩ | ⟨h1, h2, h3, h4, h5, h⟩⟩ | ⟨h1, h2, h3, h4, h5, h6, hE⟩
  iterate 6
    · have HE := hide hE
      clear hE
      subst_vars
      go_wp2_with fail
      refine bodyPost_ret (v := .tuple #[cA zeroC, .bool false]) (by simp [results, Try.results102, go_sem, cA, zeroC, hc0, hc1, hc2, hc3, hc4]) rfl ?_
      rw [HE.out]
      refine ⟨rfl, k + m1 + m2 + m3 + m4 + m5, by omega, ?_, ?_⟩
      · exact ((((hr5.other (by simp; omega) _).other (by simp; omega) _).other (by simp; omega) _).other (by simp; omega) _).other (by simp; omega) _
      · exact gb_setNew (gb_setNew (gb_setNew (gb_setNew (gb_setNew hw5 (Nat.le_refl _) _) (Nat.le_refl _) _) (Nat.le_refl _) _) (Nat.le_refl _) _) (Nat.le_refl _) _
  · have HE := hide hE
    clear hE
    subst_vars
    go_wp2_with fail
    refine bodyPost_ret (v := .tuple #[cA ⟨⟨s1.toArray⟩, ⟨s2.toArray⟩, (n3 : Int), n4 == 1, ⟨s5.toArray⟩⟩, .bool true]) (by simp [results, Try.results102, go_sem, cA, hc0, hc1, hc2, hc3, hc4]; rw [Bool.eq_iff_iff]; simp; omega) rfl ?_
    rw [HE.out]
    have hr6 : RdrT w5 t R v (k + (m1 + m2 + m3 + m4 + m5) : Nat) := by
      rw [show k + (m1 + m2 + m3 + m4 + m5) = k + m1 + m2 + m3 + m4 + m5 by omega]
      exact hr5
    refine ⟨rfl, ?_, ?_⟩
    · exact ((((hr6.other (by simp; omega) _).other (by simp; omega) _).other (by simp; omega) _).other (by simp; omega) _).other (by simp; omega) _
    · exact gb_setNew (gb_setNew (gb_setNew (gb_setNew (gb_setNew hw5 (Nat.le_refl _) _) (Nat.le_refl _) _) (Nat.le_refl _) _) (Nat.le_refl _) _) (Nat.le_refl _) _

end Go.Proofs.Ytlebbkbbmgmmjad

/-
  The walk over cell.Read.
-/
namespace Go.Proofs.Ytlebbkbbmgmmjad
open Go.RowKit

theorem lenV_ownsC {w : World} {base : Nat} {e : TypeId} {v : Value} {n : Nat} {xs : List Value} (h : w.ownsRow base e 5 v n xs) : lenV v = n := lenV_owns h

set_option maxRecDepth 100000 in
set_option maxHeartbeats 1000000 in
theorem CRead_any (v : Value) (bs : List UInt8) (w : World) (hrd : Rd w v (bc bs)) :
    Calls Try.prog 69 #[v] w fun e w' => ∃ v', e = .returned (.tuple #[v', fltC (readCR bs).2]) ∧ RdC w' v' (readCR bs).1 ∧ Below w.heap.size w w' ∧ New w.heap.size v' := by
  obtain ⟨ao, cap, hv, hc1, hc2⟩ := hrd.shape
  rw [bc_length] at hc1 hv
  subst hv
  unfold maxLen at hc2
  by_cases hbig : 60000 < bs.length
  · have HE := hide (readCR_big hbig)
    go_enter Try.func69, Try.ntmps69
    go_wp2_with fail
    exact bodyPost_ret (v := .tuple #[.slice none 0 0, fltC (8, 0)]) (by simp [results, Try.results69, go_sem, fltC]) rfl ⟨.slice none 0 0, by rw [HE.out], by rw [HE.out]; exact RdC.nil _, by go_grown, New.nil _⟩
  · have HE := hide (readCR_go hbig)
    go_enter Try.func69, Try.ntmps69
    go_wp2_with fail
    refine (ReaderOf_any ao bs.length cap _).mono ?_
    rintro e w1 ⟨rfl, hb1, hz1⟩
    have hF1 : Below (w.heap.size + 1) (w.alloc (.cells #[.int .i64 0, .int .i64 0] 28)) w1 := hb1.mono (by simp)
    have hz2 : w.heap.size + 1 < w1.heap.size := by rw [hz1]; simp
    have hblk : ∀ a l c, Value.slice ao bs.length cap = .slice (some a) l c → 0 < (bc bs).length → a.block < w.heap.size := by
      intro a l c e hp
      simp only [Value.slice.injEq] at e
      obtain ⟨rfl, _, _⟩ := e
      obtain ⟨b, off, cap', hv, _, _, hb, _⟩ := hrd.pos hp
      simp only [Value.slice.injEq, Option.some.injEq] at hv
      rw [hv.1]
      exact hb
    have HB := hide hblk
    clear hblk hb1 hz1
    go_wp2_with fail
    have hR0 : RdrT (w1.alloc (.cells #[.slice ao bs.length cap, .int .i64 0] 104)) 104 w1.heap.size (.slice ao bs.length cap) (0 : Nat) := heap_alloc_new _ _
    have hF2 : Below (w.heap.size + 1) (w.alloc (.cells #[.int .i64 0, .int .i64 0] 28)) (w1.alloc (.cells #[.slice ao bs.length cap, .int .i64 0] 104)) := hF1.alloc (by omega) _
    have hz3 : w1.heap.size < (w1.alloc (.cells #[.slice ao bs.length cap, .int .i64 0] 104)).heap.size := by simp
    generalize w1.alloc (.cells #[.slice ao bs.length cap, .int .i64 0] 104) = wA at *
    generalize w1.heap.size = R at *
    clear hF1
    go_loopw [5] (fun o wr => ∃ (k f : Nat) (acc : List Cl), k ≤ bs.length ∧ rdCells (f + 1) (bs.drop k) acc = rdCells (bs.length + 1) bs [] ∧ bs.length ≤ k + f ∧ acc.length ≤ k ∧ RdrT wr 104 R (.slice ao bs.length cap) k ∧ wr.ownsRow (R + 1) 91 5 o acc.length (cc acc) ∧ Below (w.heap.size + 1) (w.alloc (.cells #[.int .i64 0, .int .i64 0] 28)) wr)
      (fun o _ => bs.length + 1 - lenV o)
    case atStart => exact ⟨0, bs.length, [], by omega, rfl, by omega, by simp, hR0, World.ownsRow_nil _ _ _ _, hF2⟩
    case round =>
      obtain ⟨k, f, acc, hk, hgo, hf, hacc, hr, hown, hbel⟩ := hrel
      have HG := hide hgo
      clear hgo hR0 hF2 hz3
      have hbf := below_first hbel
      have hrd1 := hrd.below hbf
      have hszr := hr.facts.2.2.2.2
      have hlen := lenV_owns hown
      by_cases hkl : k = bs.length
      · subst hkl
        rw [List.drop_length] at HG
        go_wp2_with fail
        refine (Done_any _ _ _ _ _ _ _ hr).mono ?_
        rintro e w2 ⟨rfl, q, rfl⟩
        obtain ⟨ao2, cap2, hv2⟩ := ownsC_shape hown
        subst hv2
        go_wp2_with fail
        have hrc : RdC (wr.drewN q) (.slice ao2 acc.length cap2) acc := RdC.ofOwns hown
        refine (CCheck_any _ acc _ hrc).mono ?_
        rintro e w3 ⟨rfl, hb3⟩
        have hbel3 : Below (w.heap.size + 1) (w.alloc (.cells #[.int .i64 0, .int .i64 0] 28)) w3 := (below_drewN hbel q).trans (hb3.mono (by show _ ≤ wr.heap.size; omega))
        have hown3 : w3.ownsRow (R + 1) 91 5 (.slice ao2 acc.length cap2) acc.length (cc acc) := owns_below (w := wr.drewN q) hown hb3
        obtain ⟨gf0, gf1, gr0, gr1, gsz⟩ := two_later hbel3
        have hbf3 := below_first hbel3
        clear hown hbel hbf hb3
        by_cases hc : (checkC acc).1 = 0
        · have hcz := checkC_zero hc
          have HM := hide (@rdCells_end f acc hc)
          rw [hcz]
          unfold fltC
          clear hcz hc
          go_wp2_with fail
          exact bodyPost_ret (v := .tuple #[.slice ao2 acc.length cap2, fltC (0, 0)]) (by simp [results, Try.results69, go_sem, fltC, gf0, gf1, gsz]) rfl ⟨_, by rw [HE.out, ← HG.out, HM.out], by rw [HE.out, ← HG.out, HM.out]; exact RdC.ofOwns ((ownsRow_setCell_below (ownsRow_setCell_below hown3 (by simp only; omega) _) (by simp only; omega) _).alloc _), by go_grown, (New.owns hown3).mono (by omega)⟩
        · have HM := hide (@rdCells_fault f acc hc)
          have hcb : ((checkC acc).1 == 0) = false := beq_eq_false_iff_ne.2 hc
          have hcb2 : ((checkC acc).1 != 0) = true := by simp [hc]
          clear hc
          generalize checkC acc = r at *
          obtain ⟨x, y⟩ := r
          simp only at hcb hcb2
          unfold fltC
          go_wp2_with fail
          go_region
          all_goals
            go_wp2_with fail
            exact bodyPost_ret (v := .tuple #[.slice none 0 0, fltC (x, y)]) (by simp [results, Try.results69, go_sem, fltC, gf0, gf1, gsz]) rfl ⟨_, by rw [HE.out, ← HG.out, HM.out], by rw [HE.out, ← HG.out, HM.out]; exact RdC.nil _, by go_grown, New.nil _⟩
      · have hkb : ((k : Int) == bs.length) = false := beq_eq_false_iff_ne.2 (by omega)
        have hne : bs.drop k ≠ [] := by intro h; have := congrArg List.length h; simp at this; omega
        have HN := hide hne
        clear hne
        go_wp2_with fail
        refine (Done_any _ _ _ _ _ _ _ hr).mono ?_
        rintro e w2 ⟨rfl, q, rfl⟩
        go_wp2_with fail
        refine (readCell_any _ R _ bs k (wr.drewN q) (hrd1.drewN q) (fun a l c e hp => by have := HB.out a l c e hp; omega) hr hk).mono ?_
        rintro e w3 hp
        have hwq : ∀ {x : World}, (wr.drewN q).grownBy x (some R) → x.ownsRow (R + 1) 91 5 u5 acc.length (cc acc) ∧ Below (w.heap.size + 1) (w.alloc (.cells #[.int .i64 0, .int .i64 0] 28)) x ∧ R < x.heap.size := fun h => ⟨owns_grown (w := wr.drewN q) hown h (by omega), (below_drewN hbel q).grown h (by show _ ≤ wr.heap.size; omega) (fun j hj => by simp at hj; omega), by have := h.size; have e : (wr.drewN q).heap.size = wr.heap.size := rfl; omega⟩
        cases hn : rawAt (bs.drop k) with
        | none =>
          rw [hn] at hp
          obtain ⟨rfl, k', _, hr3, hg3⟩ := hp
          obtain ⟨hown3, hbel3, hsz3⟩ := hwq hg3
          have HM := hide (@rdCells_bad f (bs.drop k) acc HN.out (cellAt_no hn))
          clear hn hwq hg3 hown hbel hbf
          obtain ⟨ao2, cap2, hv2⟩ := ownsC_shape hown3
          subst hv2
          obtain ⟨gf0, gf1, gr0, gr1, gsz⟩ := two_later hbel3
          have hbf3 := below_first hbel3
          unfold cA
          go_wp2_with fail
          exact bodyPost_ret (v := .tuple #[.slice none 0 0, fltC (5, acc.length)]) (by simp [results, Try.results69, go_sem, fltC, gf0, gf1, gsz]) rfl ⟨_, by rw [HE.out, ← HG.out, HM.out], by rw [HE.out, ← HG.out, HM.out]; exact RdC.nil _, by go_grown, New.nil _⟩
        | some p =>
          obtain ⟨c, m⟩ := p
          rw [hn] at hp
          obtain ⟨rfl, hr3, hg3⟩ := hp
          obtain ⟨hown3, hbel3, hsz3⟩ := hwq hg3
          have hml := rawAt_len hn
          rw [List.length_drop] at hml
          clear hwq hg3 hown hbel hbf
          obtain ⟨ao2, cap2, hv2⟩ := ownsC_shape hown3
          subst hv2
          unfold cA
          have hC4 : Bk (w3.alloc (.cells #[.string c.row, .string c.col, .int .i64 c.time, .bool c.gone, .string c.val] 91)) w3.heap.size 91 (ca c) := Bk.new _ _ _
          have hr4 : RdrT (w3.alloc (.cells #[.string c.row, .string c.col, .int .i64 c.time, .bool c.gone, .string c.val] 91)) 104 R (.slice ao bs.length cap) (k + m : Nat) := by
            unfold RdrT
            rw [Below.heap_alloc _ _ _ hsz3]
            exact hr3
          have hbel4 : Below (w.heap.size + 1) (w.alloc (.cells #[.int .i64 0, .int .i64 0] 28)) (w3.alloc (.cells #[.string c.row, .string c.col, .int .i64 c.time, .bool c.gone, .string c.val] 91)) := hbel3.alloc (by omega) _
          have hown4 := hown3.alloc (.cells #[.string c.row, .string c.col, .int .i64 c.time, .bool c.gone, .string c.val] 91)
          have hz4 : w3.heap.size < (w3.alloc (.cells #[.string c.row, .string c.col, .int .i64 c.time, .bool c.gone, .string c.val] 91)).heap.size := by simp
          go_wp2_with fail
          refine (ownCode_any c _).mono ?_
          rintro e w5 ⟨rfl, hb5⟩
          have hC5 := hC4.below hb5 hz4
          have hr5 : RdrT w5 104 R (.slice ao bs.length cap) (k + m : Nat) := by
            unfold RdrT
            rw [hb5.block _ (by omega)]
            exact hr4
          have hbel5 : Below (w.heap.size + 1) (w.alloc (.cells #[.int .i64 0, .int .i64 0] 28)) w5 := hbel4.trans (hb5.mono (by omega))
          have hown5 := owns_below hown4 hb5
          have hz5 : w3.heap.size < w5.heap.size := hC5.lt
          clear hC4 hr4 hbel4 hown4 hz4 hb5 hown3 hbel3 hr3
          obtain ⟨gf0, gf1, gr0, gr1, gsz⟩ := two_later hbel5
          have hbf5 := below_first hbel5
          obtain ⟨c0, c1, c2, c3, c4⟩ := hC5.facts
          by_cases hc : codeC c = 0
          · have HM := hide (@rdCells_step f (bs.drop k) acc c m HN.out (cellAt_ok hn hc))
            rw [hc]
            clear hn hc
            go_wp2_with (at_builtin; go_must (refine wpList_append_oneC (c := c) hown5 Try.underlying30 Try.info91 rfl rfl rfl rfl rfl (by omega) (by decide) (by omega) ?_); intro v6 w6 ho6 hb6 hg6)
            have hlen6 := lenV_owns ho6
            have hr6 : RdrT w6 104 R (.slice ao bs.length cap) (k + m : Nat) := by
              unfold RdrT
              rw [hb6.block _ (by omega)]
              exact hr5
            go_roundw
            case rel =>
              obtain ⟨f', rfl⟩ : ∃ f', f = f' + 1 := ⟨f - 1, by omega⟩
              refine ⟨k + m, f', acc ++ [c], by omega, ?_, by omega, by simp; omega, hr6, by simpa using ho6, hbel5.trans (hb6.mono (by omega))⟩
              rw [← HG.out, HM.out, List.drop_drop]
            case measure => rw [hlen6, hlen]; omega
          · have HM := hide (@rdCells_bad f (bs.drop k) acc HN.out (cellAt_bad hn hc))
            have hcb : (codeC c != 0) = true := by simp [hc]
            clear hn hc
            go_wp2_with fail
            exact bodyPost_ret (v := .tuple #[.slice none 0 0, fltC (5, acc.length)]) (by simp [results, Try.results69, go_sem, fltC, gf0, gf1]) rfl ⟨_, by rw [HE.out, ← HG.out, HM.out], by rw [HE.out, ← HG.out, HM.out]; exact RdC.nil _, by go_grown, New.nil _⟩

end Go.Proofs.Ytlebbkbbmgmmjad

/-
  The walks over wal.ownFault, wal.follows and wal.Write.
-/
namespace Go.Proofs.Ytlebbkbbmgmmjad
open Go.RowKit

/-- A note as a value. -/
def ntA (s : Int) (v : Value) : Value := .agg #[.int .i64 s, v]

set_option maxRecDepth 100000 in
set_option maxHeartbeats 1000000 in
theorem ownFault_any (s : Int) (v : Value) (cs : List Cl) (w : World) (hv : RdC w v cs) :
    Calls Try.prog 64 #[ntA s v] w fun e w' => e = .returned (fltC (noteF s cs)) ∧ Below w.heap.size w w' := by
  obtain ⟨ao, cap, hvv, hc1, hc2⟩ := hv.shape
  subst hvv
  unfold maxLen at hc2
  unfold ntA
  go_enter Try.func64, Try.ntmps64
  by_cases h1 : s < 1
  · have HE := hide (@noteF_range s cs (by omega))
    go_wp2_with fail
    exact bodyPost_ret (v := fltC (3, -1)) (by simp [results, Try.results64, go_sem, fltC]) rfl ⟨by rw [HE.out], by go_grown⟩
  by_cases h2 : 1000000000 < s
  · have HE := hide (@noteF_range s cs (by omega))
    go_wp2_with fail
    exact bodyPost_ret (v := fltC (3, -1)) (by simp [results, Try.results64, go_sem, fltC]) rfl ⟨by rw [HE.out], by go_grown⟩
  by_cases h3 : cs.length = 0
  · have HE := hide (@noteF_many s cs (by omega) (by omega))
    go_wp2_with fail
    exact bodyPost_ret (v := fltC (2, -1)) (by simp [results, Try.results64, go_sem, fltC]) rfl ⟨by rw [HE.out], by go_grown⟩
  by_cases h4 : 20 < cs.length
  · have HE := hide (@noteF_many s cs (by omega) (by omega))
    go_wp2_with fail
    exact bodyPost_ret (v := fltC (2, -1)) (by simp [results, Try.results64, go_sem, fltC]) rfl ⟨by rw [HE.out], by go_grown⟩
  have HE := hide (@noteF_cells s cs (by omega) (by omega))
  have h3b : ((cs.length : Int) == 0) = false := beq_eq_false_iff_ne.2 (by omega)
  have h4b : decide (20 < (cs.length : Int)) = false := decide_eq_false (by omega)
  go_wp2_with fail
  have hR0 : Bk ((w.alloc (.cells #[.int .i64 s, .slice ao cs.length cap] 41)).alloc (.cells #[.int .i64 0, .int .i64 0] 28)) (w.heap.size + 1) 28 #[.int .i64 0, .int .i64 0] := Bk.new2 w _ _ _
  refine (CCheck_any _ cs _ (hv.below (by go_grown))).mono ?_
  rintro e w1 ⟨rfl, hb1⟩
  have hbw1 : Below w.heap.size w w1 := Below.trans (by go_grown) (hb1.mono (by simp <;> omega))
  have hR1 := hR0.below hb1 (by simp)
  have r0 := hR1.cell 0
  have r1 := hR1.cell 1
  have r2 := hR1.frozen 0
  have r3 := hR1.frozen 1
  have hz1 := hR1.lt
  simp at r0 r1
  generalize checkC cs = CC at *
  obtain ⟨nx, ny⟩ := CC
  unfold fltC
  go_wp2_with fail
  exact bodyPost_ret (v := fltC (nx, ny)) (by simp [results, Try.results64, go_sem, fltC, r0, r1]) rfl ⟨by rw [HE.out], by go_grown⟩

set_option maxRecDepth 100000 in
set_option maxHeartbeats 400000 in
theorem follows_any (a b : Int) (u v : Value) (w : World) (ha : -4611686018427387904 ≤ a ∧ a ≤ 4611686018427387904) :
    Calls Try.prog 77 #[ntA a u, ntA b v] w fun e w' => e = .returned (.bool (follB a b)) ∧ Below w.heap.size w w' := by
  unfold ntA
  go_enter Try.func77, Try.ntmps77
  by_cases h1 : a = 0
  · subst h1
    go_wp2_with fail
    go_ret
    exact ⟨by simp [follB], by go_grown⟩
  · by_cases h2 : b = a + 1
    · subst h2
      go_wp2_with fail
      go_ret
      exact ⟨by simp [follB], by go_grown⟩
    · go_wp2_with fail
      go_ret
      exact ⟨by simp [follB], by go_grown⟩

set_option maxRecDepth 100000 in
set_option maxHeartbeats 1000000 in
theorem WWrite_any (s : Int) (v : Value) (cs : List Cl) (w : World) (hv : RdC w v cs) :
    Calls Try.prog 22 #[ntA s v] w fun e w' => ∃ v', e = .returned (.tuple #[v', fltC (writeN s cs).2]) ∧ Rd w' v' (bc (writeN s cs).1) ∧ Below w.heap.size w w' ∧ New w.heap.size v' := by
  obtain ⟨ao, cap, hvv, hc1, hc2⟩ := hv.shape
  subst hvv
  unfold maxLen at hc2
  unfold ntA
  go_enter Try.func22, Try.ntmps22
  go_wp2_with fail
  have hN0 : Bk ((w.alloc (.cells #[.int .i64 s, .slice ao cs.length cap] 41)).alloc (.cells #[.int .i64 0, .int .i64 0] 28)) w.heap.size 41 #[.int .i64 s, .slice ao cs.length cap] := (Bk.new w _ _).below (below_alloc' _ _) (by simp)
  have hR0 : Bk ((w.alloc (.cells #[.int .i64 s, .slice ao cs.length cap] 41)).alloc (.cells #[.int .i64 0, .int .i64 0] 28)) (w.heap.size + 1) 28 #[.int .i64 0, .int .i64 0] := Bk.new2 w _ _ _
  refine (ownFault_any s _ cs _ (hv.below (by go_grown))).mono ?_
  rintro e w1 ⟨rfl, hb1⟩
  have hbw1 : Below w.heap.size w w1 := Below.trans (by go_grown) (hb1.mono (by simp <;> omega))
  have hN1 := hN0.below hb1 (by simp <;> omega)
  have hR1 := hR0.below hb1 (by simp)
  have hz1 := hR1.lt
  clear hb1 hN0 hR0
  generalize hNF : noteF s cs = NF at *
  obtain ⟨nx, ny⟩ := NF
  by_cases hx : nx = 0
  case neg =>
    have HE : Hid (writeN s cs = ([], (nx, ny))) := hide (by rw [writeN, hNF, if_neg (by simpa using hx)])
    have hcb : (nx == 0) = false := beq_eq_false_iff_ne.2 hx
    have hcb2 : (nx != 0) = true := by simp [hx]
    have r0 := hR1.cell 0
    have r1 := hR1.cell 1
    have r2 := hR1.frozen 0
    have r3 := hR1.frozen 1
    simp at r0 r1
    unfold fltC
    go_wp2_with fail
    go_region
    all_goals
      go_wp2_with fail
      exact bodyPost_ret (v := .tuple #[.slice none 0 0, fltC (nx, ny)]) (by simp [results, Try.results22, go_sem, fltC, r0, r1, hz1]) rfl ⟨.slice none 0 0, by rw [HE.out], by rw [HE.out]; exact Rd.nil _, by go_grown, New.nil _⟩
  subst hx
  have hz := noteF_zero (s := s) (cs := cs) (by rw [hNF])
  have hny : ny = 0 := by have := hz.1; rw [hNF] at this; simpa using this
  subst hny
  have HE : Hid (writeN s cs = (noteB s cs, (0, 0))) := hide (by rw [writeN, hNF, if_pos rfl])
  have HW := hide (writeCR_note (s := s) (cs := cs) (by rw [hNF]))
  have HLB := hide (noteF_flat (s := s) (cs := cs) (by rw [hNF]))
  obtain ⟨m, rfl⟩ : ∃ m : Nat, s = (m : Int) := ⟨s.toNat, by omega⟩
  have hm : m ≤ 1000000000 := by omega
  have HEB : Hid (noteB (m : Int) cs = encN m ++ flatC cs) := hide (by rw [noteB]; simp)
  have n0 := hN1.cell 0
  have n1 := hN1.cell 1
  have hzn := hN1.lt
  simp at n0 n1
  clear hz hNF
  unfold fltC
  go_wp2_with fail
  have hbA := below_alloc' w1 (.cells #[.int .i64 0, .int .i64 0] 28)
  refine (CWrite_any _ cs _ ((hv.below hbw1).alloc _)).mono ?_
  rintro e w2 ⟨v2, rfl, hr2, hb2, hn2⟩
  rw [HW.out] at hr2 ⊢
  have hb12 : Below w1.heap.size w1 w2 := hbA.trans (hb2.mono (by simp))
  have hN2 := hN1.below hb12 hN1.lt
  have hR2 := hR1.below hb12 hR1.lt
  have hbw2 := hbw1.trans (hb12.mono (by omega))
  have hz2 := hR2.lt
  have q0 := hN2.cell 0
  obtain ⟨vo2, vc2, hv2, _, _⟩ := hr2.shape
  rw [bc_length] at hv2
  simp only at hv2 hr2
  subst hv2
  simp at q0
  clear hb2 hb12 hbA n0 n1 hN1 hR1
  unfold fltC
  go_upto_region 7 with fail
  have hbB := below_alloc' w2 (.cells #[.int .i64 0, .int .i64 0] 28)
  have hR3 := hR2.below hbB hz2
  have hbw3 := hbw2.trans (hbB.mono (by omega))
  have hr3 := hr2.alloc (.cells #[.int .i64 0, .int .i64 0] 28)
  have hz3 : w2.heap.size < (w2.alloc (.cells #[.int .i64 0, .int .i64 0] 28)).heap.size := by simp
  have q1 := (hN2.below hbB hN2.lt).cell 0
  simp at q1
  generalize w2.alloc (.cells #[.int .i64 0, .int .i64 0] 28) = w3 at *
  clear q0 hN2 hR2 hbB hbw2 hr2
  go_wp2_with fail
  refine (AppendNum_any _ [] m w3.heap.size _ (World.ownsRow_nil _ _ _ _) (Nat.le_refl _) (by omega) (by simp)).mono ?_
  rintro e w4 ⟨v4, rfl, ho4, hb4, _⟩
  rw [List.nil_append] at ho4
  have hr4 := hr3.below hb4
  have hR4 := hR3.below hb4 hR3.lt
  have hbw4 := hbw3.trans (hb4.mono (by omega))
  have hz4 := hb4.size
  have hl4 : (encN m).length + (bc (flatC cs)).length ≤ 2000000000000 := by
    have := encN_length m
    have := HLB.out
    rw [bc_length]
    omega
  obtain ⟨vo4, vc4, hv4⟩ := owns_shape ho4
  subst hv4
  clear q1 hr3 hR3 hbw3
  go_wp2_with (at_builtin; go_must (refine wpList_append_rd ho4 hr4 Try.underlying42 Try.info5 rfl rfl rfl rfl rfl (bc_one _) hl4 (by decide) hz4 ?_); intro v5 w5 ho5 hb5 hg5; clear hg5; have hR5 := hR4.below hb5 (by omega); have r0 := hR5.cell 0; have r1 := hR5.cell 1; have r2 := hR5.frozen 0; have r3 := hR5.frozen 1; have hz5 := hR5.lt; simp at r0 r1)
  rw [← bc_append] at ho5
  refine bodyPost_ret (v := .tuple #[v5, fltC (0, 0)]) (by simp [results, Try.results22, go_sem, fltC, r0, r1]) rfl ⟨v5, by rw [HE.out], by rw [HE.out]; show Rd _ _ (bc (noteB (m : Int) cs)); rw [HEB.out]; exact Rd.ofOwns (ownsRow_setCell_below (ownsRow_setCell_below ho5 (by simp only; omega) _) (by simp only; omega) _), ?_, (New.owns ho5).mono (by omega)⟩
  have hbw5 := hbw4.trans (hb5.mono (by omega))
  exact (hbw5.setCell (by simp only; omega) _).setCell (by simp only; omega) _

end Go.Proofs.Ytlebbkbbmgmmjad

/-
  The walk over wal.Read.
-/
namespace Go.Proofs.Ytlebbkbbmgmmjad
open Go.RowKit

set_option maxRecDepth 100000 in
set_option maxHeartbeats 2000000 in
theorem WRead_any (v : Value) (bs : List UInt8) (w : World) (hrd : Rd w v (bc bs)) :
    Calls Try.prog 23 #[v] w fun e w' => ∃ v', e = .returned (.tuple #[ntA (readN bs).1.seq v', fltC (readN bs).2]) ∧ RdC w' v' (readN bs).1.cells ∧ Below w.heap.size w w' ∧ New w.heap.size v' := by
  obtain ⟨ao, cap, hvv, hc1, hc2⟩ := hrd.shape
  rw [bc_length] at hc1 hvv
  subst hvv
  unfold maxLen at hc2
  go_enter Try.func23, Try.ntmps23
  by_cases hbig : 60000 < bs.length
  · have HE := hide (readN_big hbig)
    go_wp2_with fail
    exact bodyPost_ret (v := .tuple #[ntA 0 (.slice none 0 0), fltC (8, 0)]) (by simp [results, Try.results23, go_sem, fltC, ntA]) rfl ⟨.slice none 0 0, by rw [HE.out]; rfl, by rw [HE.out]; exact RdC.nil _, by go_grown, New.nil _⟩
  have hA0 : Bk ((w.alloc (.cells #[.int .i64 0, .slice none 0 0] 41)).alloc (.cells #[.int .i64 0, .int .i64 0] 28)) w.heap.size 41 #[.int .i64 0, .slice none 0 0] := (Bk.new w _ _).below (below_alloc' _ _) (by simp)
  have hF0 : Bk ((w.alloc (.cells #[.int .i64 0, .slice none 0 0] 41)).alloc (.cells #[.int .i64 0, .int .i64 0] 28)) (w.heap.size + 1) 28 #[.int .i64 0, .int .i64 0] := Bk.new2 w _ _ _
  go_wp2_with fail
  refine (ReaderOf_any ao bs.length cap _).mono ?_
  rintro e w1 ⟨rfl, hb1, hz1⟩
  have hA1 := hA0.below hb1 (by simp <;> omega)
  have hF1 := hF0.below hb1 (by simp)
  have hbw1 : Below w.heap.size w w1 := Below.trans (by go_grown) (hb1.mono (by simp <;> omega))
  have hzz : w1.heap.size = w.heap.size + 3 := by rw [hz1]; simp
  clear hA0 hF0 hb1 hz1
  have hblk : ∀ a l c, Value.slice ao bs.length cap = .slice (some a) l c → 0 < (bc bs).length → a.block < w.heap.size := by
    intro a l c e hp
    simp only [Value.slice.injEq] at e
    obtain ⟨rfl, _, _⟩ := e
    obtain ⟨b, off, cap', hv, _, _, hb, _⟩ := hrd.pos hp
    simp only [Value.slice.injEq, Option.some.injEq] at hv
    rw [hv.1]
    exact hb
  have HBLK := hide hblk
  clear hblk
  have hbA := below_alloc' w1 (.cells #[.slice ao bs.length cap, .int .i64 0] 104)
  have hR : RdrT (w1.alloc (.cells #[.slice ao bs.length cap, .int .i64 0] 104)) 104 w1.heap.size (.slice ao bs.length cap) (0 : Nat) := heap_alloc_new _ _
  have hA2 := hA1.below hbA hA1.lt
  have hF2 := hF1.below hbA hF1.lt
  have hrd2 := (hrd.below hbw1).below hbA
  have hbw2 := hbw1.trans (hbA.mono (by omega))
  have hz2 : (w1.alloc (.cells #[.slice ao bs.length cap, .int .i64 0] 104)).heap.size = w.heap.size + 4 := by simp [hzz]
  clear hA1 hF1 hbA hbw1
  go_upto_region 4 with fail
  generalize w1.alloc (.cells #[.slice ao bs.length cap, .int .i64 0] 104) = w2 at *
  have hRz : w1.heap.size = w.heap.size + 3 := hzz
  generalize w1.heap.size = R at *
  subst hRz
  clear hzz
  go_wp2_with fail
  refine (Num_any _ (w.heap.size + 3) _ bs 0 _ hrd2 hR (by omega)).mono ?_
  rintro e w3 ⟨rfl, hR3, hg3⟩
  rw [List.drop_zero] at hR3 ⊢
  have hA3 := hA2.grown hg3 (by simp)
  have hF3 := hF2.grown hg3 (by simp)
  have hbw3 := hbw2.grown hg3 (by omega) (fun k hk => by simp at hk; omega)
  have hz3 := hg3.size
  clear hA2 hF2 hbw2 hR hg3 hrd2
  cases hn : numAt bs with
  | none =>
    have HE := hide (readN_form hbig hn)
    have a0 := hA3.cell 0
    have a1 := hA3.cell 1
    have a2 := hA3.frozen 0
    have a3 := hA3.frozen 1
    have f0 := hF3.cell 0
    have f1 := hF3.cell 1
    have f2 := hF3.frozen 0
    have f3 := hF3.frozen 1
    have hlt := hF3.lt
    have hltA := hA3.lt
    simp at a0 a1 f0 f1
    clear hn hR3
    unfold numVC
    go_wp2_with fail
    exact bodyPost_ret (v := .tuple #[ntA 0 (.slice none 0 0), fltC (5, -1)]) (by simp [results, Try.results23, go_sem, fltC, ntA, a0, a1, f0, f1]) rfl ⟨.slice none 0 0, by rw [HE.out]; rfl, by rw [HE.out]; exact RdC.nil _, by go_grown, New.nil _⟩
  | some p =>
    obtain ⟨s, k⟩ := p
    obtain ⟨hk0, hk1, hs⟩ := numAt_len hn
    rw [hn] at hR3
    simp only [numKC, Nat.zero_add] at hR3
    have hrd3 := hrd.below hbw3
    unfold numVC
    go_wp2_with fail
    refine (Rest_any _ (w.heap.size + 3) _ bs k _ hrd3 hR3 hk1).mono ?_
    rintro e w4 ⟨⟨vo, vc, rfl, hrr, _⟩, q, rfl⟩
    have hA4 : Bk (w3.drewN q) w.heap.size 41 #[.int .i64 0, .slice none 0 0] := hA3
    have hF4 : Bk (w3.drewN q) (w.heap.size + 1) 28 #[.int .i64 0, .int .i64 0] := hF3
    have hbw4 := below_drewN hbw3 q
    have hrr4 := hrr.drewN q
    have hz4 : w2.heap.size ≤ (w3.drewN q).heap.size := hz3
    clear hA3 hF3 hrr hR3 hrd3 hbw3 hz3
    generalize w3.drewN q = w4 at *
    clear hrd
    go_wp2_with fail
    refine (CRead_any _ (bs.drop k) _ (by rw [show bs.length - k = (bs.drop k).length by simp] at hrr4; simpa using hrr4)).mono ?_
    rintro e w5 ⟨v5, rfl, hr5, hb5, hn5⟩
    have hA5 := hA4.below hb5 hA4.lt
    have hF5 := hF4.below hb5 hF4.lt
    have hbw5 := hbw4.trans (hb5.mono (by omega))
    have hz5 := hb5.size
    have hnn5 := hn5.mono (show w.heap.size + 4 ≤ w4.heap.size by omega)
    clear hA4 hF4 hbw4 hb5 hrr4 hn5
    have a0 := hA5.cell 0
    have a1 := hA5.cell 1
    have a2 := hA5.frozen 0
    have a3 := hA5.frozen 1
    have f0 := hF5.cell 0
    have f1 := hF5.cell 1
    have f2 := hF5.frozen 0
    have f3 := hF5.frozen 1
    have hlt := hF5.lt
    have hltA := hA5.lt
    simp at a0 a1 f0 f1
    have HOWN := hide (@readN_own bs s k hbig hn)
    have HOK := hide (@readN_ok bs s k hbig hn)
    have HCE := hide (@readN_cells bs s k hbig hn)
    have HFZ := hide (@readCR_zero (bs.drop k))
    clear hn
    generalize readCR (bs.drop k) = RC at *
    obtain ⟨cs, x, y⟩ := RC
    obtain ⟨vo5, vc5, hv5, hv51, hv52⟩ := hr5.shape
    simp only at hr5 hv5 hv51 HOWN HOK HCE HFZ ⊢
    subst hv5
    unfold maxLen at hv52
    by_cases hx : x = 0
    case neg =>
      have HE := hide (HCE.out hx)
      have hcb : (x == 0) = false := beq_eq_false_iff_ne.2 hx
      have hcb2 : (x != 0) = true := by simp [hx]
      clear HOWN HOK HCE HFZ
      unfold fltC
      go_wp2_with fail
      go_region
      all_goals
        go_wp2_with fail
        exact bodyPost_ret (v := .tuple #[ntA 0 (.slice none 0 0), fltC (x, y)]) (by simp [results, Try.results23, go_sem, fltC, ntA, a0, a1, f0, f1, hlt, hltA]) rfl ⟨.slice none 0 0, by rw [HE.out]; rfl, by rw [HE.out]; exact RdC.nil _, by go_grown, New.nil _⟩
    subst hx
    have hy : y = 0 := HFZ.out rfl
    subst hy
    have HOWN1 := hide (HOWN.out rfl)
    have HOK1 := hide (HOK.out rfl)
    clear HCE HFZ HOWN HOK
    unfold fltC
    have hb57 : Below w5.heap.size w5 ((w5.alloc (.cells #[.int .i64 0, .int .i64 0] 28)).alloc (.cells #[.int .i64 s, .slice vo5 cs.length vc5] 41)) := (below_alloc' _ _).alloc (by simp) _
    have hNt : Bk ((w5.alloc (.cells #[.int .i64 0, .int .i64 0] 28)).alloc (.cells #[.int .i64 s, .slice vo5 cs.length vc5] 41)) (w5.heap.size + 1) 41 #[.int .i64 s, .slice vo5 cs.length vc5] := Bk.new2 w5 _ _ _
    have HB57 := hide hb57
    have HNT := hide hNt
    clear hb57 hNt
    go_upto_region 11 with fail
    generalize (w5.alloc (.cells #[.int .i64 0, .int .i64 0] 28)).alloc (.cells #[.int .i64 s, .slice vo5 cs.length vc5] 41) = w7 at *
    have hb57 := HB57.out
    have hNt := HNT.out
    have hA7 := hA5.below hb57 hA5.lt
    have hF7 := hF5.below hb57 hF5.lt
    have hr7 := hr5.below hb57
    have hbw7 := hbw5.trans (hb57.mono (by omega))
    have hz7 := hb57.size
    have hlN := hNt.lt
    have n0 := hNt.cell 0
    have n1 := hNt.cell 1
    simp at n0 n1
    clear hA5 hF5 hbw5 hr5 a0 a1 a2 a3 f0 f1 f2 f3 hlt hb57 HB57 HNT
    go_wp2_with fail
    refine (ownFault_any s _ cs _ hr7).mono ?_
    rintro e w8 ⟨rfl, hb8⟩
    have hA8 := hA7.below hb8 hA7.lt
    have hF8 := hF7.below hb8 hF7.lt
    have hN8 := hNt.below hb8 hNt.lt
    have hr8 := hr7.below hb8
    have hbw8 := hbw7.trans (hb8.mono (by omega))
    have hz8 := hb8.size
    have a0 := hA8.cell 0
    have a1 := hA8.cell 1
    have a2 := hA8.frozen 0
    have a3 := hA8.frozen 1
    have f0 := hF8.cell 0
    have f1 := hF8.cell 1
    have f2 := hF8.frozen 0
    have f3 := hF8.frozen 1
    have hlt := hF8.lt
    have hltA := hA8.lt
    have hlN8 := hN8.lt
    clear n0 n1
    have n0 := hN8.cell 0
    have n1 := hN8.cell 1
    simp at a0 a1 f0 f1 n0 n1
    clear hA7 hF7 hNt hr7 hbw7 hb8
    have HNZ := hide (@noteF_zero (s : Int) cs)
    generalize noteF (s : Int) cs = NF at *
    obtain ⟨nx, ny⟩ := NF
    simp only at HNZ
    by_cases hx : nx = 0
    case neg =>
      have HE := hide (HOWN1.out hx)
      have hcb : (nx == 0) = false := beq_eq_false_iff_ne.2 hx
      have hcb2 : (nx != 0) = true := by simp [hx]
      clear HOWN1 HOK1 HNZ
      unfold fltC
      go_wp2_with fail
      go_region
      all_goals
        go_wp2_with fail
        exact bodyPost_ret (v := .tuple #[ntA 0 (.slice none 0 0), fltC (nx, ny)]) (by simp [results, Try.results23, go_sem, fltC, ntA, a0, a1, f0, f1, hlt, hltA]) rfl ⟨.slice none 0 0, by rw [HE.out]; rfl, by rw [HE.out]; exact RdC.nil _, by go_grown, New.nil _⟩
    subst hx
    have hny : ny = 0 := by have := (HNZ.out rfl).1; simpa using this
    subst hny
    have HE := hide (HOK1.out rfl)
    clear HOWN1 HOK1 HNZ
    unfold fltC
    go_wp2_with fail
    exact bodyPost_ret (v := .tuple #[ntA s (.slice vo5 cs.length vc5), fltC (0, 0)]) (by simp [results, Try.results23, go_sem, fltC, ntA, a0, a1, f0, f1, hlt, hltA]) rfl ⟨.slice vo5 cs.length vc5, by rw [HE.out], by
      rw [HE.out]
      exact ((((hr8.setNew hnn5 (by simp only; omega) _).setNew hnn5 (by simp only; omega) _).setNew hnn5 (by simp only; omega) _).setNew hnn5 (by simp only; omega) _).alloc _, by go_grown, hnn5.mono (by omega)⟩

end Go.Proofs.Ytlebbkbbmgmmjad

/-
  The walks beneath the laws of cells: the example, copies.
-/
namespace Go.Proofs.Ytlebbkbbmgmmjad
open Go.RowKit

def verC : List Cl := [⟨⟨#[114]⟩, ⟨#[99]⟩, 2, false, ⟨#[98]⟩⟩, ⟨⟨#[114]⟩, ⟨#[99]⟩, 1, false, ⟨#[97]⟩⟩]

set_option maxRecDepth 100000 in
set_option maxHeartbeats 400000 in
theorem versions_any (w : World) : Calls Try.prog 53 #[] w fun e w' => ∃ v', e = .returned v' ∧ RdC w' v' verC ∧ Below w.heap.size w w' := by
  go_enter Try.func53, Try.ntmps53
  go_wp2_with fail
  go_ret
  refine ⟨_, rfl, ?_, by go_grown⟩
  refine ⟨some ⟨w.heap.size, 0, none⟩, 2, rfl, by decide, by decide, (fun h => by cases h), fun a ha j v hv => ?_⟩
  cases ha
  rw [Addr.add_lit, Nat.zero_add, ← hv]
  refine ((Bk.new w 91 _).cell j).trans ?_
  simp [cc, cv, verC]

theorem getC_ver1 : getC verC ⟨#[114]⟩ ⟨#[99]⟩ 1 = (⟨#[97]⟩, true, (0, 0)) := by decide +kernel
theorem getC_ver0 : getC verC ⟨#[114]⟩ ⟨#[99]⟩ 0 = (⟨#[]⟩, false, (0, 0)) := by decide +kernel


set_option maxRecDepth 100000 in
set_option maxHeartbeats 400000 in
theorem ownCells_any (v : Value) (cs : List Cl) (w : World) (hv : RdC w v cs) (hl : cs.length ≤ 1000000) :
    Calls Try.prog 43 #[v] w fun e w' => ∃ v', e = .returned v' ∧ RdC w' v' cs ∧ Below w.heap.size w w' ∧ New w.heap.size v' := by
  obtain ⟨ao, cap, hvv, hc1, hc2⟩ := hv.shape
  subst hvv
  have hl2 : 0 + cs.length ≤ 1000000000 := by omega
  go_enter Try.func43, Try.ntmps43
  go_wp2_with (at_builtin; go_must (refine wpList_append_rdC (cs := []) (World.ownsRow_nil w w.heap.size 91 5) hv Try.underlying30 Try.info91 rfl rfl rfl rfl rfl hl2 (by decide) (Nat.le_refl _) ?_); intro v1 w1 ho1 hb1 hg1; clear hg1)
  go_ret
  exact ⟨_, rfl, RdC.ofOwns ho1, hb1, New.owns ho1⟩

def manyB (n : Int) : Bool := decide (150 < n ∧ n < 1000 ∨ 2000 < n)

set_option maxRecDepth 100000 in
set_option maxHeartbeats 400000 in
theorem many_any (n : Int) (w : World) : Calls Try.prog 19 #[.int .i64 n] w fun e w' => e = .returned (.bool (manyB n)) ∧ w' = w := by
  have h : n ≤ 150 ∨ 150 < n ∧ n < 1000 ∨ 1000 ≤ n ∧ n ≤ 2000 ∨ 2000 < n := by omega
  rcases h with h | ⟨h, h2⟩ | ⟨h, h2⟩ | h
  · have hd : decide (150 < n) = false := by simp; omega
    have hd2 : decide (2000 < n) = false := by simp; omega
    have HE := hide (show manyB n = false by unfold manyB; simp; omega)
    go_enter Try.func19, Try.ntmps19
    go_wp2_with fail
    go_ret
    exact ⟨by rw [HE.out]; rfl, rfl⟩
  · have hd : decide (150 < n) = true := by simp; omega
    have hd2 : decide (n < 1000) = true := by simp; omega
    have HE := hide (show manyB n = true by unfold manyB; simp; omega)
    go_enter Try.func19, Try.ntmps19
    go_wp2_with fail
    go_ret
    exact ⟨by rw [HE.out]; rfl, rfl⟩
  · have hd : decide (150 < n) = true := by simp; omega
    have hd2 : decide (n < 1000) = false := by simp; omega
    have hd3 : decide (2000 < n) = false := by simp; omega
    have HE := hide (show manyB n = false by unfold manyB; simp; omega)
    go_enter Try.func19, Try.ntmps19
    go_wp2_with fail
    go_ret
    exact ⟨by rw [HE.out]; rfl, rfl⟩
  · have hd : decide (150 < n) = true := by simp; omega
    have hd2 : decide (n < 1000) = false := by simp; omega
    have hd3 : decide (2000 < n) = true := by simp; omega
    have HE := hide (show manyB n = true by unfold manyB; simp; omega)
    go_enter Try.func19, Try.ntmps19
    go_wp2_with fail
    go_ret
    exact ⟨by rw [HE.out]; rfl, rfl⟩

end Go.Proofs.Ytlebbkbbmgmmjad

/-
  The walks over the document's answers of cells: their faults, and whether two lists are the same.
-/
namespace Go.Proofs.Ytlebbkbbmgmmjad
open Go.RowKit

theorem isNumB_true {n : Int} (h1 : 0 ≤ n) (h2 : n ≤ 1000000000) : isNumB n = true := by unfold isNumB; simp; omega
theorem isNumB_false {n : Int} (h : n < 0 ∨ 1000000000 < n) : isNumB n = false := by unfold isNumB; simp; omega

set_option maxRecDepth 100000 in
set_option maxHeartbeats 400000 in
theorem CellCode_any (c : Cl) (w : World) : Calls Try.prog 86 #[cA c] w fun e w' => e = .returned (.int .i64 (codeC c)) ∧ Below w.heap.size w w' := by
  unfold cA
  have hall : c.row.toList.isEmpty = true ∨ (c.row.toList.isEmpty = false ∧ 40 < (c.row.size : Int)) ∨ (c.row.toList.isEmpty = false ∧ (c.row.size : Int) ≤ 40 ∧ 40 < (c.col.size : Int)) ∨ (c.row.toList.isEmpty = false ∧ (c.row.size : Int) ≤ 40 ∧ (c.col.size : Int) ≤ 40 ∧ 200 < (c.val.size : Int)) ∨ (c.row.toList.isEmpty = false ∧ (c.row.size : Int) ≤ 40 ∧ (c.col.size : Int) ≤ 40 ∧ (c.val.size : Int) ≤ 200) := by
    cases c.row.toList.isEmpty
    · simp only [Bool.false_eq_true, false_or, true_and]
      omega
    · exact .inl rfl
  rcases hall with h0 | ⟨h0, h1⟩ | ⟨h0, h1, h2⟩ | ⟨h0, h1, h2, h3⟩ | ⟨h0, h1, h2, h3⟩
  iterate 4
    · have HE := hide (show codeC c = 8 by unfold codeC; rw [if_pos (by simp only [h0]; simp; try omega)])
      go_enter Try.func86, Try.ntmps86
      go_wp2_with fail
      go_ret
      exact ⟨by rw [HE.out]; rfl, by go_grown⟩
  · have hn : ¬ (c.row.toList.isEmpty = true ∨ 40 < (c.row.size : Int) ∨ 40 < (c.col.size : Int) ∨ 200 < (c.val.size : Int)) := by simp only [h0]; simp; omega
    have h4 : c.time < 0 ∨ (¬ c.time < 0 ∧ 1000000000 < c.time) ∨ (¬ c.time < 0 ∧ c.time ≤ 1000000000) := by omega
    rcases h4 with h4 | ⟨h4, h5⟩ | ⟨h4, h5⟩
    · have HE := hide (show codeC c = 3 by unfold codeC; rw [if_neg hn, if_pos (isNumB_false (by omega))])
      clear hn
      go_enter Try.func86, Try.ntmps86
      go_wp2_with fail
      go_ret
      exact ⟨by rw [HE.out]; rfl, by go_grown⟩
    · have HE := hide (show codeC c = 3 by unfold codeC; rw [if_neg hn, if_pos (isNumB_false (by omega))])
      clear hn
      go_enter Try.func86, Try.ntmps86
      go_wp2_with fail
      go_ret
      exact ⟨by rw [HE.out]; rfl, by go_grown⟩
    · have hi := isNumB_true (n := c.time) (by omega) h5
      cases h7 : c.gone <;> cases h6 : c.val.toList.isEmpty
      all_goals
        have HE := hide (show codeC c = _ by unfold codeC; rw [if_neg hn, if_neg (by rw [hi]; decide), h7, h6])
        clear hn hi
        go_enter Try.func86, Try.ntmps86
        go_wp2_with fail
        go_ret
        exact ⟨by rw [HE.out]; rfl, by go_grown⟩

/-- Does a stand ahead of b? -/
def aheadB (a b : Cl) : Bool := if a.row.toList == b.row.toList then (if a.col.toList == b.col.toList then decide (b.time < a.time) else Op.bytesLess a.col.toList b.col.toList) else Op.bytesLess a.row.toList b.row.toList

theorem aheadB_iff {a b : Cl} : aheadB a b = true ↔ Lt a b := by
  unfold aheadB Lt kl rc
  by_cases h1 : a.row.toList = b.row.toList
  · by_cases h2 : a.col.toList = b.col.toList
    · simp [h1, h2, bl_irrefl]
    · simp [h1, h2, bl_irrefl]
  · simp [h1]

theorem aheadB_ord {a b : Cl} : aheadB a b = decide (ordC a b < 0) := by
  rw [Bool.eq_iff_iff, aheadB_iff, decide_eq_true_eq, ordC_neg]

set_option maxRecDepth 100000 in
set_option maxHeartbeats 400000 in
theorem Ahead_any (a b : Cl) (w : World) : Calls Try.prog 87 #[cA a, cA b] w fun e w' => e = .returned (.bool (aheadB a b)) ∧ Below w.heap.size w w' := by
  unfold cA
  cases h1 : (a.row.toList == b.row.toList) <;> cases h2 : (a.col.toList == b.col.toList)
  all_goals
    have HE := hide (show aheadB a b = _ by unfold aheadB; rw [h1, h2])
    go_enter Try.func87, Try.ntmps87
    go_wp2_with fail
    go_ret
    exact ⟨by rw [HE.out]; rfl, by go_grown⟩

set_option maxRecDepth 100000 in
set_option maxHeartbeats 400000 in
theorem FC_any (c a : Int) (w : World) : Calls Try.prog 38 #[.int .i64 c, .int .i64 a] w fun e w' => e = .returned (fltC (c, a)) ∧ Below w.heap.size w w' := by
  go_enter Try.func38, Try.ntmps38
  go_wp2_with fail
  exact bodyPost_ret (v := fltC (c, a)) (by simp [results, Try.results38, go_sem, fltC]) rfl ⟨rfl, by go_grown⟩

/-- A fault's block and what is below, behind a call. -/
theorem flt_later {w wr w1 : World} (hbel : Below (w.heap.size + 1) (w.alloc (.cells #[.int .i64 0, .int .i64 0] 28)) wr) (hb : Below wr.heap.size wr w1) : Below (w.heap.size + 1) (w.alloc (.cells #[.int .i64 0, .int .i64 0] 28)) w1 :=
  hbel.trans (hb.mono (by have := hbel.size; simp at this; omega))

set_option maxRecDepth 100000 in
set_option maxHeartbeats 1000000 in
theorem CellsFault_any (v : Value) (cs : List Cl) (w : World) (hv : RdC w v cs) :
    Calls Try.prog 46 #[v] w fun e w' => e = .returned (fltC (checkC cs)) ∧ Below w.heap.size w w' := by
  obtain ⟨ao, cap, hvv, hc1, hc2, hat⟩ := hv.at
  subst hvv
  unfold maxLen at hc2
  by_cases hbig : 1000 < cs.length
  · have HE := hide (show checkC cs = (2, 0) by simp [checkC, faultR, hbig])
    go_enter Try.func46, Try.ntmps46
    go_wp2_with fail
    refine (FC_any 2 0 _).mono ?_
    rintro e w1 ⟨rfl, hb1⟩
    have hbel := flt_later (Below.refl _ _) hb1
    obtain ⟨hf0, hf1, hfr0, hfr1, hsz⟩ := two_later hbel
    have hbf := below_first hbel
    unfold fltC
    go_wp2_with fail
    exact bodyPost_ret (v := fltC (2, 0)) (by simp [results, Try.results46, go_sem, fltC, hf0, hf1]) rfl ⟨by rw [HE.out], by go_grown⟩
  · have HF := hide (show checkC cs = firstG (codeAt cs) cs.length 0 by simp [checkC, faultR, hbig])
    go_enter Try.func46, Try.ntmps46
    go_wp2_with fail
    go_loopw [3] (fun i wr => ∃ k : Nat, k ≤ cs.length ∧ i = .int .i64 k ∧ firstG (codeAt cs) (cs.length - k) k = checkC cs ∧ Below (w.heap.size + 1) (w.alloc (.cells #[.int .i64 0, .int .i64 0] 28)) wr)
      (fun i _ => cs.length - (intOf i).toNat)
    case atStart => exact ⟨0, by omega, rfl, by rw [HF.out]; rfl, Below.refl _ _⟩
    case round =>
      obtain ⟨k, hk, rfl, hgo, hbel⟩ := hrel
      have HG := hide hgo
      clear hgo
      by_cases hlt : k < cs.length
      · obtain ⟨b, off, rfl, hb, hcl⟩ := hat k hlt
        obtain ⟨c, hc⟩ : ∃ c, cs[k]? = some c := ⟨_, List.getElem?_eq_getElem hlt⟩
        have hck := hcl k hlt
        rw [(List.getElem?_eq_some_iff.1 hc).2] at hck
        have HCK := hide hck
        have hbf := below_first hbel
        obtain ⟨c0, c1, c2, c3, c4⟩ := hck.below hbf
        have hk1 : (0 : Int) ≤ (k : Int) := by omega
        have hk2 : (k : Int) < (cs.length : Int) := by omega
        go_wp2_with fail
        refine (CellCode_any c _).mono ?_
        rintro e w1 ⟨rfl, hb1⟩
        have hbel1 := flt_later hbel hb1
        obtain ⟨gf0, gf1, gfr0, gfr1, gsz⟩ := two_later hbel1
        have hbf1 := below_first hbel1
        clear c0 c1 c2 c3 c4 hb1 hbf hbel
        by_cases h0 : codeC c = 0
        · by_cases hk0 : k = 0
          · subst hk0
            have HE := hide (firstG_next (m := cs.length - 0) (codeAt_first hc h0) (by omega))
            have hd : decide ((0 : Int) < ((0 : Nat) : Int)) = false := by simp
            rw [h0]
            clear hc hcl hat hv hck
            go_wp2_with fail
            go_quiet (fail)
            go_wp2_with fail
            go_roundw
            case rel => exact ⟨1, by omega, by go_num, by rw [← HG.out, HE.out]; rfl, below_drewN hbel1 _⟩
            case measure => simp [intOf]; omega
          · obtain ⟨j, hkj⟩ : ∃ j, k = j + 1 := ⟨k - 1, by omega⟩
            obtain ⟨d, hd⟩ : ∃ c, cs[j]? = some c := ⟨_, List.getElem?_eq_getElem (by omega)⟩
            have hdi := hcl j (by omega)
            rw [(List.getElem?_eq_some_iff.1 hd).2] at hdi
            have HCA : Hid (codeAt cs k = if 0 ≤ ordC d c then 10 else 0) := hide (by rw [hkj] at hc ⊢; exact codeAt_later hc hd h0)
            have hg : decide (0 < k) = true := by simp; omega
            have hw : IntKind.i64.wrap ((k : Int) - 1) = (j : Int) := by rw [IntKind.wrap_i64]; omega
            have hj1 : (0 : Int) ≤ (j : Int) := by omega
            have hj2 : (j : Int) < (cs.length : Int) := by omega
            rw [h0]
            have hkeep : ∀ W, Below w.heap.size w W → (W.cell? ⟨b, off + k * 5, none⟩ = some (.string c.row) ∧ W.cell? ⟨b, off + k * 5 + 1, none⟩ = some (.string c.col) ∧ W.cell? ⟨b, off + k * 5 + 2, none⟩ = some (.int .i64 c.time) ∧ W.cell? ⟨b, off + k * 5 + 3, none⟩ = some (.bool c.gone) ∧ W.cell? ⟨b, off + k * 5 + 4, none⟩ = some (.string c.val)) ∧ (W.cell? ⟨b, off + j * 5, none⟩ = some (.string d.row) ∧ W.cell? ⟨b, off + j * 5 + 1, none⟩ = some (.string d.col) ∧ W.cell? ⟨b, off + j * 5 + 2, none⟩ = some (.int .i64 d.time) ∧ W.cell? ⟨b, off + j * 5 + 3, none⟩ = some (.bool d.gone) ∧ W.cell? ⟨b, off + j * 5 + 4, none⟩ = some (.string d.val)) := fun W h => by
              obtain ⟨c0, c1, c2, c3, c4⟩ := HCK.out.below h
              obtain ⟨d0, d1, d2, d3, d4⟩ := hdi.below h
              exact ⟨⟨c0, c1, c2, c3, c4⟩, d0, d1, d2, d3, d4⟩
            have HK := hide hkeep
            obtain ⟨⟨c0, c1, c2, c3, c4⟩, d0, d1, d2, d3, d4⟩ := hkeep w1 hbf1
            clear hkeep hcl hat hv hc hd hck hdi hkj hk0
            go_wp2_with fail
            cases h7 : aheadB d c
            · have HE : Hid (codeAt cs k = 10) := hide (HCA.out.trans (if_pos (by rw [aheadB_ord, decide_eq_false_iff_not] at h7; omega)))
              have HFG := hide (firstG_hit (f := codeAt cs) (m := cs.length - k) (i := k) (by rw [HE.out]; decide) (by omega))
              go_region_held3 (fun W => (W.cell? ⟨b, off + k * 5, none⟩ = some (.string c.row) ∧ W.cell? ⟨b, off + k * 5 + 1, none⟩ = some (.string c.col) ∧ W.cell? ⟨b, off + k * 5 + 2, none⟩ = some (.int .i64 c.time) ∧ W.cell? ⟨b, off + k * 5 + 3, none⟩ = some (.bool c.gone) ∧ W.cell? ⟨b, off + k * 5 + 4, none⟩ = some (.string c.val)) ∧ (W.cell? ⟨b, off + j * 5, none⟩ = some (.string d.row) ∧ W.cell? ⟨b, off + j * 5 + 1, none⟩ = some (.string d.col) ∧ W.cell? ⟨b, off + j * 5 + 2, none⟩ = some (.int .i64 d.time) ∧ W.cell? ⟨b, off + j * 5 + 3, none⟩ = some (.bool d.gone) ∧ W.cell? ⟨b, off + j * 5 + 4, none⟩ = some (.string d.val))) (exact HK.out _ (by go_grown)) (first
                | (go_at_call 87; refine (Ahead_any d c _).mono ?_; rintro e w2 ⟨rfl, hb2⟩; rw [h7]; have hb12 : Below w1.heap.size w1 w2 := Below.trans (by go_grown) hb2; have hbw2 : Below w.heap.size w w2 := hbf1.trans (hb12.mono (by omega))))
              have hbel2 := flt_later hbel1 hb12
              go_wp2_with fail
              refine (FC_any 10 k _).mono ?_
              rintro e w3 ⟨rfl, hb3⟩
              have hbel3 := flt_later hbel2 hb3
              clear gf0 gf1 gfr0 gfr1 gsz
              obtain ⟨gf0, gf1, gfr0, gfr1, gsz⟩ := two_later hbel3
              have hbf3 := below_first hbel3
              unfold fltC
              go_wp2_with fail
              exact bodyPost_ret (v := fltC (10, k)) (by simp [results, Try.results46, go_sem, fltC, gf0, gf1]) rfl ⟨by rw [← HG.out, HFG.out, HE.out], by go_grown⟩
            · have HE : Hid (codeAt cs k = 0) := hide (HCA.out.trans (if_neg (by rw [aheadB_ord, decide_eq_true_eq] at h7; omega)))
              have HFG := hide (firstG_next (m := cs.length - k) HE.out (by omega))
              go_region_held3 (fun W => (W.cell? ⟨b, off + k * 5, none⟩ = some (.string c.row) ∧ W.cell? ⟨b, off + k * 5 + 1, none⟩ = some (.string c.col) ∧ W.cell? ⟨b, off + k * 5 + 2, none⟩ = some (.int .i64 c.time) ∧ W.cell? ⟨b, off + k * 5 + 3, none⟩ = some (.bool c.gone) ∧ W.cell? ⟨b, off + k * 5 + 4, none⟩ = some (.string c.val)) ∧ (W.cell? ⟨b, off + j * 5, none⟩ = some (.string d.row) ∧ W.cell? ⟨b, off + j * 5 + 1, none⟩ = some (.string d.col) ∧ W.cell? ⟨b, off + j * 5 + 2, none⟩ = some (.int .i64 d.time) ∧ W.cell? ⟨b, off + j * 5 + 3, none⟩ = some (.bool d.gone) ∧ W.cell? ⟨b, off + j * 5 + 4, none⟩ = some (.string d.val))) (exact HK.out _ (by go_grown)) (first
                | (go_at_call 87; refine (Ahead_any d c _).mono ?_; rintro e w2 ⟨rfl, hb2⟩; rw [h7]; have hb12 : Below w1.heap.size w1 w2 := Below.trans (by go_grown) hb2; have hbw2 : Below w.heap.size w w2 := hbf1.trans (hb12.mono (by omega))))
              have hbel2 := flt_later hbel1 hb12
              go_wp2_with fail
              go_roundw
              case rel => exact ⟨k + 1, by omega, by go_num, by rw [← HG.out, HFG.out]; congr 1, hbel2⟩
              case measure => simp [intOf]; omega
        · have hb : (codeC c != 0) = true := by simp [h0]
          have HC := hide (codeAt_own hc h0)
          have HE := hide (firstG_hit (f := codeAt cs) (m := cs.length - k) (i := k) (by rw [HC.out]; exact h0) (by omega))
          clear h0 hc hcl hat hv hck
          go_wp2_with fail
          refine (FC_any _ k _).mono ?_
          rintro e w2 ⟨rfl, hb2⟩
          have hbel2 := flt_later hbel1 hb2
          clear gf0 gf1 gfr0 gfr1 gsz
          obtain ⟨gf0, gf1, gfr0, gfr1, gsz⟩ := two_later hbel2
          have hbf2 := below_first hbel2
          unfold fltC
          go_wp2_with fail
          exact bodyPost_ret (v := fltC (codeC c, k)) (by simp [results, Try.results46, go_sem, fltC, gf0, gf1]) rfl ⟨by rw [← HG.out, HE.out, HC.out], by go_grown⟩
      · have hz : cs.length - k = 0 := by omega
        rw [hz] at HG
        obtain ⟨gf0, gf1, gfr0, gfr1, gsz⟩ := two_later hbel
        have hbf := below_first hbel
        go_wp2_with fail
        exact bodyPost_ret (v := fltC (0, 0)) (by simp [results, Try.results46, go_sem, fltC, gf0, gf1]) rfl ⟨by rw [← HG.out]; rfl, by go_grown⟩

end Go.Proofs.Ytlebbkbbmgmmjad

/-
  The walks over the document's answers of cells: the same cells.
-/
namespace Go.Proofs.Ytlebbkbbmgmmjad
open Go.RowKit

theorem ba_ext {a b : ByteArray} (h : a.toList = b.toList) : a = b := by
  rw [ByteArray.toList_eq, ByteArray.toList_eq] at h
  cases a; cases b
  simp at h
  rw [h]

/-- Are two cells the same? -/
def eqC (a b : Cl) : Bool := (a.row.toList == b.row.toList) && ((a.col.toList == b.col.toList) && (decide (a.time = b.time) && ((a.gone == b.gone) && (a.val.toList == b.val.toList))))

theorem eqC_iff {a b : Cl} : eqC a b = true ↔ a = b := by
  unfold eqC
  constructor
  · intro h
    simp only [Bool.and_eq_true, beq_iff_eq, decide_eq_true_eq] at h
    obtain ⟨h1, h2, h3, h4, h5⟩ := h
    cases a; cases b
    simp only at h1 h2 h3 h4 h5
    rw [ba_ext h1, ba_ext h2, h3, h4, ba_ext h5]
  · rintro rfl
    simp

def sameC : List Cl → List Cl → Bool
  | [], [] => true
  | a :: l, b :: m => eqC a b && sameC l m
  | _, _ => false

theorem sameC_refl : ∀ l : List Cl, sameC l l = true
  | [] => rfl
  | a :: l => by simp [sameC, eqC_iff.2 rfl, sameC_refl l]

set_option maxRecDepth 100000 in
set_option maxHeartbeats 1000000 in
theorem SameCells_any (v u : Value) (cs : List Cl) (w : World) (hv : RdC w v cs) (hu : RdC w u cs) :
    Calls Try.prog 14 #[v, u] w fun e w' => e = .returned (.bool true) ∧ Below w.heap.size w w' := by
  obtain ⟨ao, cap, hvv, hc1, hc2, hat⟩ := hv.at
  obtain ⟨bo, cbp, huu, hd1, hd2, hbt⟩ := hu.at
  subst hvv huu
  unfold maxLen at hc2 hd2
  have hnb : ((cs.length : Int) != cs.length) = false := by simp
  go_enter Try.func14, Try.ntmps14
  go_wp2_with fail
  go_loopw [5] (fun i wr => ∃ k : Nat, k ≤ cs.length ∧ i = .int .i64 k ∧ Below w.heap.size w wr)
    (fun i _ => cs.length - (intOf i).toNat)
  case atStart => exact ⟨0, by omega, rfl, Below.refl _ _⟩
  case round =>
    obtain ⟨k, hk, rfl, hbel⟩ := hrel
    by_cases hlt : k < cs.length
    · obtain ⟨b, off, rfl, hb, hcl⟩ := hat k hlt
      obtain ⟨b2, off2, rfl, hb2, hcl2⟩ := hbt k hlt
      have h1 := (hcl k hlt).below hbel
      have h2 := (hcl2 k hlt).below hbel
      generalize cs[k] = c at *
      obtain ⟨c0, c1, c2, c3, c4⟩ := h1
      obtain ⟨d0, d1, d2, d3, d4⟩ := h2
      have hk1 : (0 : Int) ≤ (k : Int) := by omega
      have hk2 : (k : Int) < (cs.length : Int) := by omega
      clear hcl hcl2 hat hbt hv hu
      go_wp2_with fail
      go_quiet (fail)
      go_wp2_with fail
      go_roundw
      case rel => exact ⟨k + 1, by omega, by go_num, below_drewN hbel _⟩
      case measure => simp [intOf]; omega
    · go_wp2_with fail
      go_ret
      exact ⟨rfl, hbel⟩

end Go.Proofs.Ytlebbkbbmgmmjad
