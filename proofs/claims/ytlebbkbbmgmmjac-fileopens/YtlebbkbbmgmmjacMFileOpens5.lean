/-
  Texts joined: CellW8, CellW9, FileW1, FileW2, FileW3, FileW4, FileW5.
-/
import Derived.Test.YtlebbkbbmgmmjacMFileOpens4
import Derived.Lib.ConvBytes
import Derived.Laws.OwnMore
/-
  The walks over cell.readCell and cell.Read.
-/
namespace Go.Proofs.Ytlebbkbbmgmmjac
open Go.RowKit

/-- Text, whatever is there: the text, whether one is, and where the reader stands then. -/
theorem Text_ex (t : TypeId) (R : Nat) (v : Value) (bs : List UInt8) (k : Nat) (w : World) (hrd : Rd w v (bc bs)) (hblk : ∀ a l c, v = .slice (some a) l c → 0 < (bc bs).length → a.block ≠ R) (hr : RdrT w t R v k) (hk : k ≤ bs.length) :
    Calls Try.prog 102 #[.pointer (some ⟨R, 0, none⟩)] w fun e w' => ∃ (s : List UInt8) (b : Bool) (m : Nat), e = .returned (.tuple #[.string ⟨s.toArray⟩, .bool b]) ∧ k + m ≤ bs.length ∧ RdrT w' t R v (k + m : Nat) ∧ w.grownBy w' (some R) ∧ (b = true → textAt (bs.drop k) = some (s, m)) ∧ (b = false → textAt (bs.drop k) = none) := by
  cases h : textAt (bs.drop k) with
  | none => exact (Text_none t R v bs k w hrd hblk hr hk h).mono fun e w' ⟨h1, h2, h3⟩ => ⟨[], false, 0, h1, by omega, h2, h3, (fun h => by cases h), fun _ => rfl⟩
  | some p =>
    obtain ⟨s, m⟩ := p
    have hl := textAt_len h
    rw [List.length_drop] at hl
    exact (Text_some t R v bs s k m w hrd hblk hr hk h).mono fun e w' ⟨h1, h2, h3⟩ => ⟨s, true, m, h1, by omega, h2, h3, (fun _ => rfl), fun h => by cases h⟩

theorem Num_ex (t : TypeId) (R : Nat) (v : Value) (bs : List UInt8) (k : Nat) (w : World) (hrd : Rd w v (bc bs)) (hr : RdrT w t R v k) (hk : k ≤ bs.length) :
    Calls Try.prog 103 #[.pointer (some ⟨R, 0, none⟩)] w fun e w' => ∃ (n : Nat) (b : Bool) (m : Nat), e = .returned (.tuple #[.int .i64 n, .bool b]) ∧ n ≤ 1000000000 ∧ k + m ≤ bs.length ∧ RdrT w' t R v (k + m : Nat) ∧ w.grownBy w' (some R) ∧ (b = true → numAt (bs.drop k) = some (n, m)) ∧ (b = false → numAt (bs.drop k) = none) := by
  refine (Num_any t R v bs k w hrd hr hk).mono ?_
  rintro e w' ⟨h1, h2, h3⟩
  cases h : numAt (bs.drop k) with
  | none =>
    rw [h] at h1 h2
    exact ⟨0, false, 0, h1, by omega, by omega, h2, h3, (fun h => by cases h), fun _ => rfl⟩
  | some p =>
    obtain ⟨n, m⟩ := p
    rw [h] at h1 h2
    have hl := numAt_len h
    rw [List.length_drop] at hl
    exact ⟨n, true, m, h1, hl.2.2, by omega, h2, h3, (fun _ => rfl), fun h => by cases h⟩

theorem RdrT.other {w : World} {t : TypeId} {R : Nat} {v : Value} {k : Int} (h : RdrT w t R v k) {p : Addr} (hp : p.block ≠ R) (u : Value) : RdrT (w.setCell p u) t R v k := by
  unfold RdrT
  rw [heap_setCell_other w p R u (fun e => hp e.symm)]
  exact h

theorem gb_setNew {a w : World} {o : Option Nat} (h : a.grownBy w o) {p : Addr} (hp : a.heap.size ≤ p.block) (u : Value) : a.grownBy (w.setCell p u) o :=
  ⟨h.os, h.tape, h.output, by rw [World.setCell]; simp [h.size], fun k hk hn => (heap_setCell_other w p k u (by omega)).trans (h.block k hk hn)⟩

/-- What readCell answers. -/
def rawPost (w w' : World) (e : Ending) (t : TypeId) (R : Nat) (v : Value) (k len : Nat) : Option (Cl × Nat) → Prop
  | none => e = .returned (.tuple #[cA zeroC, .bool false]) ∧ ∃ k' : Nat, k' ≤ len ∧ RdrT w' t R v k' ∧ w.grownBy w' (some R)
  | some (c, m) => e = .returned (.tuple #[cA c, .bool true]) ∧ RdrT w' t R v (k + m : Nat) ∧ w.grownBy w' (some R)

set_option maxRecDepth 100000 in
set_option maxHeartbeats 1000000 in
theorem readCell_any (t : TypeId) (R : Nat) (v : Value) (bs : List UInt8) (k : Nat) (w : World) (hrd : Rd w v (bc bs)) (hblk : ∀ a l c, v = .slice (some a) l c → 0 < (bc bs).length → a.block ≠ R) (hr : RdrT w t R v k) (hk : k ≤ bs.length) :
    Calls Try.prog 114 #[.pointer (some ⟨R, 0, none⟩)] w fun e w' => rawPost w w' e t R v k bs.length (rawAt (bs.drop k)) := by
  have hRlt := hr.facts.2.2.2.2
  have hrd0 := hrd.alloc (.cells #[.string ⟨#[]⟩, .string ⟨#[]⟩, .int .i64 0, .bool false, .string ⟨#[]⟩] 53)
  have hr0 : RdrT (w.alloc (.cells #[.string ⟨#[]⟩, .string ⟨#[]⟩, .int .i64 0, .bool false, .string ⟨#[]⟩] 53)) t R v k := by
    unfold RdrT
    rw [Below.heap_alloc _ _ _ hRlt]
    exact hr
  have hB0 : Bk (w.alloc (.cells #[.string ⟨#[]⟩, .string ⟨#[]⟩, .int .i64 0, .bool false, .string ⟨#[]⟩] 53)) w.heap.size 53 (ca zeroC) := Bk.new _ _ _
  have hg0 : w.grownBy (w.alloc (.cells #[.string ⟨#[]⟩, .string ⟨#[]⟩, .int .i64 0, .bool false, .string ⟨#[]⟩] 53)) (some R) := gb_alloc (gb_refl _ _) _
  go_enter Try.func114, Try.ntmps114
  go_wp2_with fail
  refine (Text_ex t R v bs k _ hrd0 hblk hr0 hk).mono ?_
  rintro e w1 ⟨s1, b1, m1, rfl, hk1, hr1, hg1, hT1, hF1⟩
  have hrd1 := hrd0.grownT hg1 hblk
  have hB1 := hB0.grown hg1 (by simp; omega)
  have hw1 := grownT_trans hg0 hg1
  clear hrd0 hr0 hB0 hg0 hg1
  go_wp2_with fail
  refine (Text_ex t R v bs (k + m1) _ hrd1 hblk hr1 hk1).mono ?_
  rintro e w2 ⟨s2, b2, m2, rfl, hk2, hr2, hg2, hT2, hF2⟩
  have hrd2 := hrd1.grownT hg2 hblk
  have hB2 := hB1.grown hg2 (by simp; omega)
  have hw2 := grownT_trans hw1 hg2
  clear hrd1 hr1 hB1 hw1 hg2
  go_wp2_with fail
  refine (Num_ex t R v bs (k + m1 + m2) _ hrd2 hr2 hk2).mono ?_
  rintro e w3 ⟨n3, b3, m3, rfl, hn3, hk3, hr3, hg3, hT3, hF3⟩
  have hrd3 := hrd2.grownT hg3 hblk
  have hB3 := hB2.grown hg3 (by simp; omega)
  have hw3 := grownT_trans hw2 hg3
  clear hrd2 hr2 hB2 hw2 hg3
  go_wp2_with fail
  refine (Num_ex t R v bs (k + m1 + m2 + m3) _ hrd3 hr3 hk3).mono ?_
  rintro e w4 ⟨n4, b4, m4, rfl, hn4, hk4, hr4, hg4, hT4, hF4⟩
  have hrd4 := hrd3.grownT hg4 hblk
  have hB4 := hB3.grown hg4 (by simp; omega)
  have hw4 := grownT_trans hw3 hg4
  clear hrd3 hr3 hB3 hw3 hg4
  go_wp2_with fail
  refine (Text_ex t R v bs (k + m1 + m2 + m3 + m4) _ hrd4 hblk hr4 hk4).mono ?_
  rintro e w5 ⟨s5, b5, m5, rfl, hk5, hr5, hg5, hT5, hF5⟩
  have hB5 := hB4.grown hg5 (by simp; omega)
  have hw5 := grownT_trans hw4 hg5
  clear hrd4 hr4 hB4 hw4 hg5 hrd hr
  simp only [← List.drop_drop] at hT2 hF2 hT3 hF3 hT4 hF4 hT5 hF5
  generalize hds : bs.drop k = ds at *
  have hT3' : b3 = true → numAt (ds.drop (m1 + m2)) = some (n3, m3) := fun h => by have := hT3 h; simpa only [List.drop_drop] using this
  have hF3' : b3 = false → numAt (ds.drop (m1 + m2)) = none := fun h => by have := hF3 h; simpa only [List.drop_drop] using this
  have hT4' : b4 = true → numAt (ds.drop (m1 + m2 + m3)) = some (n4, m4) := fun h => by have := hT4 h; simpa only [List.drop_drop] using this
  have hF4' : b4 = false → numAt (ds.drop (m1 + m2 + m3)) = none := fun h => by have := hF4 h; simpa only [List.drop_drop] using this
  have hT5' : b5 = true → textAt (ds.drop (m1 + m2 + m3 + m4)) = some (s5, m5) := fun h => by have := hT5 h; simpa only [List.drop_drop] using this
  have hF5' : b5 = false → textAt (ds.drop (m1 + m2 + m3 + m4)) = none := fun h => by have := hF5 h; simpa only [List.drop_drop] using this
  have HDS := hide hds
  clear hT3 hF3 hT4 hF4 hT5 hF5 hds
  have hc0 := hB5.cell 0
  have hc1 := hB5.cell 1
  have hc2 := hB5.cell 2
  have hc3 := hB5.cell 3
  have hc4 := hB5.cell 4
  have hfz := hB5.thaw
  obtain ⟨f0, f1, f2, f3, f4⟩ := hfz
  have hsz5 := hB5.lt
  simp [ca, zeroC] at hc0 hc1 hc2 hc3 hc4
  have hall : (rawAt ds = none ∧ (b1 = false ∨ b1 = true ∧ b2 = false ∨ b1 = true ∧ b2 = true ∧ b3 = false ∨ b1 = true ∧ b2 = true ∧ b3 = true ∧ b4 = false ∨ b1 = true ∧ b2 = true ∧ b3 = true ∧ b4 = true ∧ (1 : Int) < n4 ∨ b1 = true ∧ b2 = true ∧ b3 = true ∧ b4 = true ∧ (n4 : Int) ≤ 1 ∧ b5 = false)) ∨
      (b1 = true ∧ b2 = true ∧ b3 = true ∧ b4 = true ∧ (n4 : Int) ≤ 1 ∧ b5 = true ∧ rawAt ds = some (⟨⟨s1.toArray⟩, ⟨s2.toArray⟩, (n3 : Int), n4 == 1, ⟨s5.toArray⟩⟩, m1 + m2 + m3 + m4 + m5)) := by
    cases b1
    · exact .inl ⟨rawAt_1 (hF1 rfl), .inl rfl⟩
    · cases b2
      · exact .inl ⟨rawAt_2 (hT1 rfl) (hF2 rfl), by simp⟩
      · cases b3
        · exact .inl ⟨rawAt_3 (hT1 rfl) (hT2 rfl) (hF3' rfl), by simp⟩
        · cases b4
          · exact .inl ⟨rawAt_4 (hT1 rfl) (hT2 rfl) (hT3' rfl) (hF4' rfl), by simp⟩
          · by_cases h1 : 1 < n4
            · exact .inl ⟨rawAt_5 (hT1 rfl) (hT2 rfl) (hT3' rfl) (hT4' rfl) h1, by simp; omega⟩
            · cases b5
              · exact .inl ⟨rawAt_6 (hT1 rfl) (hT2 rfl) (hT3' rfl) (hT4' rfl) (hF5' rfl), by simp; omega⟩
              · exact .inr ⟨rfl, rfl, rfl, rfl, by omega, rfl, rawAt_ok (hT1 rfl) (hT2 rfl) (hT3' rfl) (hT4' rfl) h1 (hT5' rfl)⟩
  clear hT1 hF1 hT2 hF2 hT3' hF3' hT4' hF4' hT5' hF5'
  rcases hall with ⟨hE, h | ⟨h1, h⟩ | ⟨h1, h2, h⟩ | ⟨h1, h2, h3, h⟩ | ⟨h1, h2, h3, h4, h⟩ | ⟨h1, h2, h3, h4, h5, h⟩⟩ | ⟨h1, h2, h3, h4, h5, h6, hE⟩
  iterate 6
    · have HE := hide hE
      clear hE
      subst_vars
      go_wp2_with fail
      refine bodyPost_ret (v := .tuple #[cA zeroC, .bool false]) (by simp [results, Try.results114, go_sem, cA, zeroC, hc0, hc1, hc2, hc3, hc4]) rfl ?_
      rw [HE.out]
      refine ⟨rfl, k + m1 + m2 + m3 + m4 + m5, by omega, ?_, ?_⟩
      · exact ((((hr5.other (by simp; omega) _).other (by simp; omega) _).other (by simp; omega) _).other (by simp; omega) _).other (by simp; omega) _
      · exact gb_setNew (gb_setNew (gb_setNew (gb_setNew (gb_setNew hw5 (Nat.le_refl _) _) (Nat.le_refl _) _) (Nat.le_refl _) _) (Nat.le_refl _) _) (Nat.le_refl _) _
  · have HE := hide hE
    clear hE
    subst_vars
    go_wp2_with fail
    refine bodyPost_ret (v := .tuple #[cA ⟨⟨s1.toArray⟩, ⟨s2.toArray⟩, (n3 : Int), n4 == 1, ⟨s5.toArray⟩⟩, .bool true]) (by simp [results, Try.results114, go_sem, cA, hc0, hc1, hc2, hc3, hc4]; rw [Bool.eq_iff_iff]; simp; omega) rfl ?_
    rw [HE.out]
    have hr6 : RdrT w5 t R v (k + (m1 + m2 + m3 + m4 + m5) : Nat) := by
      rw [show k + (m1 + m2 + m3 + m4 + m5) = k + m1 + m2 + m3 + m4 + m5 by omega]
      exact hr5
    refine ⟨rfl, ?_, ?_⟩
    · exact ((((hr6.other (by simp; omega) _).other (by simp; omega) _).other (by simp; omega) _).other (by simp; omega) _).other (by simp; omega) _
    · exact gb_setNew (gb_setNew (gb_setNew (gb_setNew (gb_setNew hw5 (Nat.le_refl _) _) (Nat.le_refl _) _) (Nat.le_refl _) _) (Nat.le_refl _) _) (Nat.le_refl _) _

end Go.Proofs.Ytlebbkbbmgmmjac

/-
  The walk over cell.Read.
-/
namespace Go.Proofs.Ytlebbkbbmgmmjac
open Go.RowKit

theorem lenV_ownsC {w : World} {base : Nat} {e : TypeId} {v : Value} {n : Nat} {xs : List Value} (h : w.ownsRow base e 5 v n xs) : lenV v = n := lenV_owns h

set_option maxRecDepth 100000 in
set_option maxHeartbeats 1000000 in
theorem CRead_any (v : Value) (bs : List UInt8) (w : World) (hrd : Rd w v (bc bs)) :
    Calls Try.prog 105 #[v] w fun e w' => ∃ v', e = .returned (.tuple #[v', fltC (readCR bs).2]) ∧ RdC w' v' (readCR bs).1 ∧ Below w.heap.size w w' ∧ New w.heap.size v' := by
  obtain ⟨ao, cap, hv, hc1, hc2⟩ := hrd.shape
  rw [bc_length] at hc1 hv
  subst hv
  unfold maxLen at hc2
  by_cases hbig : 60000 < bs.length
  · have HE := hide (readCR_big hbig)
    go_enter Try.func105, Try.ntmps105
    go_wp2_with fail
    exact bodyPost_ret (v := .tuple #[.slice none 0 0, fltC (8, 0)]) (by simp [results, Try.results105, go_sem, fltC]) rfl ⟨.slice none 0 0, by rw [HE.out], by rw [HE.out]; exact RdC.nil _, by go_grown, New.nil _⟩
  · have HE := hide (readCR_go hbig)
    go_enter Try.func105, Try.ntmps105
    go_wp2_with fail
    refine (ReaderOf_any ao bs.length cap _).mono ?_
    rintro e w1 ⟨rfl, hb1, hz1⟩
    have hF1 : Below (w.heap.size + 1) (w.alloc (.cells #[.int .i64 0, .int .i64 0] 26)) w1 := hb1.mono (by simp)
    have hz2 : w.heap.size + 1 < w1.heap.size := by rw [hz1]; simp
    have hblk : ∀ a l c, Value.slice ao bs.length cap = .slice (some a) l c → 0 < (bc bs).length → a.block < w.heap.size := by
      intro a l c e hp
      simp only [Value.slice.injEq] at e
      obtain ⟨rfl, _, _⟩ := e
      obtain ⟨b, off, cap', hv, _, _, hb, _⟩ := hrd.pos hp
      simp only [Value.slice.injEq, Option.some.injEq] at hv
      rw [hv.1]
      exact hb
    have HB := hide hblk
    clear hblk hb1 hz1
    go_wp2_with fail
    have hR0 : RdrT (w1.alloc (.cells #[.slice ao bs.length cap, .int .i64 0] 145)) 145 w1.heap.size (.slice ao bs.length cap) (0 : Nat) := heap_alloc_new _ _
    have hF2 : Below (w.heap.size + 1) (w.alloc (.cells #[.int .i64 0, .int .i64 0] 26)) (w1.alloc (.cells #[.slice ao bs.length cap, .int .i64 0] 145)) := hF1.alloc (by omega) _
    have hz3 : w1.heap.size < (w1.alloc (.cells #[.slice ao bs.length cap, .int .i64 0] 145)).heap.size := by simp
    generalize w1.alloc (.cells #[.slice ao bs.length cap, .int .i64 0] 145) = wA at *
    generalize w1.heap.size = R at *
    clear hF1
    go_loopw [5] (fun o wr => ∃ (k f : Nat) (acc : List Cl), k ≤ bs.length ∧ rdCells (f + 1) (bs.drop k) acc = rdCells (bs.length + 1) bs [] ∧ bs.length ≤ k + f ∧ acc.length ≤ k ∧ RdrT wr 145 R (.slice ao bs.length cap) k ∧ wr.ownsRow (R + 1) 53 5 o acc.length (cc acc) ∧ Below (w.heap.size + 1) (w.alloc (.cells #[.int .i64 0, .int .i64 0] 26)) wr)
      (fun o _ => bs.length + 1 - lenV o)
    case atStart => exact ⟨0, bs.length, [], by omega, rfl, by omega, by simp, hR0, World.ownsRow_nil _ _ _ _, hF2⟩
    case round =>
      obtain ⟨k, f, acc, hk, hgo, hf, hacc, hr, hown, hbel⟩ := hrel
      have HG := hide hgo
      clear hgo hR0 hF2 hz3
      have hbf := below_first hbel
      have hrd1 := hrd.below hbf
      have hszr := hr.facts.2.2.2.2
      have hlen := lenV_owns hown
      by_cases hkl : k = bs.length
      · subst hkl
        rw [List.drop_length] at HG
        go_wp2_with fail
        refine (Done_any _ _ _ _ _ _ _ hr).mono ?_
        rintro e w2 ⟨rfl, q, rfl⟩
        obtain ⟨ao2, cap2, hv2⟩ := ownsC_shape hown
        subst hv2
        go_wp2_with fail
        have hrc : RdC (wr.drewN q) (.slice ao2 acc.length cap2) acc := RdC.ofOwns hown
        refine (CCheck_any _ acc _ hrc).mono ?_
        rintro e w3 ⟨rfl, hb3⟩
        have hbel3 : Below (w.heap.size + 1) (w.alloc (.cells #[.int .i64 0, .int .i64 0] 26)) w3 := (below_drewN hbel q).trans (hb3.mono (by show _ ≤ wr.heap.size; omega))
        have hown3 : w3.ownsRow (R + 1) 53 5 (.slice ao2 acc.length cap2) acc.length (cc acc) := owns_below (w := wr.drewN q) hown hb3
        obtain ⟨gf0, gf1, gr0, gr1, gsz⟩ := two_later hbel3
        have hbf3 := below_first hbel3
        clear hown hbel hbf hb3
        by_cases hc : (checkC acc).1 = 0
        · have hcz := checkC_zero hc
          have HM := hide (@rdCells_end f acc hc)
          rw [hcz]
          unfold fltC
          clear hcz hc
          go_wp2_with fail
          exact bodyPost_ret (v := .tuple #[.slice ao2 acc.length cap2, fltC (0, 0)]) (by simp [results, Try.results105, go_sem, fltC, gf0, gf1, gsz]) rfl ⟨_, by rw [HE.out, ← HG.out, HM.out], by rw [HE.out, ← HG.out, HM.out]; exact RdC.ofOwns ((ownsRow_setCell_below (ownsRow_setCell_below hown3 (by simp only; omega) _) (by simp only; omega) _).alloc _), by go_grown, (New.owns hown3).mono (by omega)⟩
        · have HM := hide (@rdCells_fault f acc hc)
          have hcb : ((checkC acc).1 == 0) = false := beq_eq_false_iff_ne.2 hc
          have hcb2 : ((checkC acc).1 != 0) = true := by simp [hc]
          clear hc
          generalize checkC acc = r at *
          obtain ⟨x, y⟩ := r
          simp only at hcb hcb2
          unfold fltC
          go_wp2_with fail
          go_region
          all_goals
            go_wp2_with fail
            exact bodyPost_ret (v := .tuple #[.slice none 0 0, fltC (x, y)]) (by simp [results, Try.results105, go_sem, fltC, gf0, gf1, gsz]) rfl ⟨_, by rw [HE.out, ← HG.out, HM.out], by rw [HE.out, ← HG.out, HM.out]; exact RdC.nil _, by go_grown, New.nil _⟩
      · have hkb : ((k : Int) == bs.length) = false := beq_eq_false_iff_ne.2 (by omega)
        have hne : bs.drop k ≠ [] := by intro h; have := congrArg List.length h; simp at this; omega
        have HN := hide hne
        clear hne
        go_wp2_with fail
        refine (Done_any _ _ _ _ _ _ _ hr).mono ?_
        rintro e w2 ⟨rfl, q, rfl⟩
        go_wp2_with fail
        refine (readCell_any _ R _ bs k (wr.drewN q) (hrd1.drewN q) (fun a l c e hp => by have := HB.out a l c e hp; omega) hr hk).mono ?_
        rintro e w3 hp
        have hwq : ∀ {x : World}, (wr.drewN q).grownBy x (some R) → x.ownsRow (R + 1) 53 5 u5 acc.length (cc acc) ∧ Below (w.heap.size + 1) (w.alloc (.cells #[.int .i64 0, .int .i64 0] 26)) x ∧ R < x.heap.size := fun h => ⟨owns_grown (w := wr.drewN q) hown h (by omega), (below_drewN hbel q).grown h (by show _ ≤ wr.heap.size; omega) (fun j hj => by simp at hj; omega), by have := h.size; have e : (wr.drewN q).heap.size = wr.heap.size := rfl; omega⟩
        cases hn : rawAt (bs.drop k) with
        | none =>
          rw [hn] at hp
          obtain ⟨rfl, k', _, hr3, hg3⟩ := hp
          obtain ⟨hown3, hbel3, hsz3⟩ := hwq hg3
          have HM := hide (@rdCells_bad f (bs.drop k) acc HN.out (cellAt_no hn))
          clear hn hwq hg3 hown hbel hbf
          obtain ⟨ao2, cap2, hv2⟩ := ownsC_shape hown3
          subst hv2
          obtain ⟨gf0, gf1, gr0, gr1, gsz⟩ := two_later hbel3
          have hbf3 := below_first hbel3
          unfold cA
          go_wp2_with fail
          exact bodyPost_ret (v := .tuple #[.slice none 0 0, fltC (5, acc.length)]) (by simp [results, Try.results105, go_sem, fltC, gf0, gf1, gsz]) rfl ⟨_, by rw [HE.out, ← HG.out, HM.out], by rw [HE.out, ← HG.out, HM.out]; exact RdC.nil _, by go_grown, New.nil _⟩
        | some p =>
          obtain ⟨c, m⟩ := p
          rw [hn] at hp
          obtain ⟨rfl, hr3, hg3⟩ := hp
          obtain ⟨hown3, hbel3, hsz3⟩ := hwq hg3
          have hml := rawAt_len hn
          rw [List.length_drop] at hml
          clear hwq hg3 hown hbel hbf
          obtain ⟨ao2, cap2, hv2⟩ := ownsC_shape hown3
          subst hv2
          unfold cA
          have hC4 : Bk (w3.alloc (.cells #[.string c.row, .string c.col, .int .i64 c.time, .bool c.gone, .string c.val] 53)) w3.heap.size 53 (ca c) := Bk.new _ _ _
          have hr4 : RdrT (w3.alloc (.cells #[.string c.row, .string c.col, .int .i64 c.time, .bool c.gone, .string c.val] 53)) 145 R (.slice ao bs.length cap) (k + m : Nat) := by
            unfold RdrT
            rw [Below.heap_alloc _ _ _ hsz3]
            exact hr3
          have hbel4 : Below (w.heap.size + 1) (w.alloc (.cells #[.int .i64 0, .int .i64 0] 26)) (w3.alloc (.cells #[.string c.row, .string c.col, .int .i64 c.time, .bool c.gone, .string c.val] 53)) := hbel3.alloc (by omega) _
          have hown4 := hown3.alloc (.cells #[.string c.row, .string c.col, .int .i64 c.time, .bool c.gone, .string c.val] 53)
          have hz4 : w3.heap.size < (w3.alloc (.cells #[.string c.row, .string c.col, .int .i64 c.time, .bool c.gone, .string c.val] 53)).heap.size := by simp
          go_wp2_with fail
          refine (ownCode_any c _).mono ?_
          rintro e w5 ⟨rfl, hb5⟩
          have hC5 := hC4.below hb5 hz4
          have hr5 : RdrT w5 145 R (.slice ao bs.length cap) (k + m : Nat) := by
            unfold RdrT
            rw [hb5.block _ (by omega)]
            exact hr4
          have hbel5 : Below (w.heap.size + 1) (w.alloc (.cells #[.int .i64 0, .int .i64 0] 26)) w5 := hbel4.trans (hb5.mono (by omega))
          have hown5 := owns_below hown4 hb5
          have hz5 : w3.heap.size < w5.heap.size := hC5.lt
          clear hC4 hr4 hbel4 hown4 hz4 hb5 hown3 hbel3 hr3
          obtain ⟨gf0, gf1, gr0, gr1, gsz⟩ := two_later hbel5
          have hbf5 := below_first hbel5
          obtain ⟨c0, c1, c2, c3, c4⟩ := hC5.facts
          by_cases hc : codeC c = 0
          · have HM := hide (@rdCells_step f (bs.drop k) acc c m HN.out (cellAt_ok hn hc))
            rw [hc]
            clear hn hc
            go_wp2_with (at_builtin; go_must (refine wpList_append_oneC (c := c) hown5 Try.underlying22 Try.info53 rfl rfl rfl rfl rfl (by omega) (by decide) (by omega) ?_); intro v6 w6 ho6 hb6 hg6)
            have hlen6 := lenV_owns ho6
            have hr6 : RdrT w6 145 R (.slice ao bs.length cap) (k + m : Nat) := by
              unfold RdrT
              rw [hb6.block _ (by omega)]
              exact hr5
            go_roundw
            case rel =>
              obtain ⟨f', rfl⟩ : ∃ f', f = f' + 1 := ⟨f - 1, by omega⟩
              refine ⟨k + m, f', acc ++ [c], by omega, ?_, by omega, by simp; omega, hr6, by simpa using ho6, hbel5.trans (hb6.mono (by omega))⟩
              rw [← HG.out, HM.out, List.drop_drop]
            case measure => rw [hlen6, hlen]; omega
          · have HM := hide (@rdCells_bad f (bs.drop k) acc HN.out (cellAt_bad hn hc))
            have hcb : (codeC c != 0) = true := by simp [hc]
            clear hn hc
            go_wp2_with fail
            exact bodyPost_ret (v := .tuple #[.slice none 0 0, fltC (5, acc.length)]) (by simp [results, Try.results105, go_sem, fltC, gf0, gf1]) rfl ⟨_, by rw [HE.out, ← HG.out, HM.out], by rw [HE.out, ← HG.out, HM.out]; exact RdC.nil _, by go_grown, New.nil _⟩

end Go.Proofs.Ytlebbkbbmgmmjac

/-
  The walks over file.bodiesOf and file.pieces.
-/
namespace Go.Proofs.Ytlebbkbbmgmmjac
open Go.RowKit

/-- What lies below B reads ahead as it reads behind. -/
theorem Rd.back {w w' : World} {v : Value} {xs : List Value} {B : Nat} (h : Rd w' v xs) (hb : Below B w w') (hlt : ∀ a l c, v = .slice (some a) l c → 0 < xs.length → a.block < B) : Rd w v xs := by
  obtain ⟨ao, cap, hv, h1, h2, h3, h4⟩ := h
  refine ⟨ao, cap, hv, h1, h2, h3, fun a ha j u hu => ?_⟩
  have hc := h4 a ha j u hu
  have e : (a.add j).block = a.block := by unfold Addr.add; split <;> rfl
  have := hlt a _ _ (by rw [hv, ha]) (by have := (List.getElem?_eq_some_iff.1 hu).1; omega)
  rw [← hb.cell (by omega)]
  exact hc

/-- Values that read as bodies. -/
def Bds (w : World) (us : List Value) (bb : List (List UInt8)) : Prop := us.length = bb.length ∧ (∀ (i : Nat) (u : Value) (b : List UInt8), us[i]? = some u → bb[i]? = some b → Rd w u (bc b)) ∧ ∀ u ∈ us, u.oneCell' = true

theorem Bds.nil (w : World) : Bds w [] [] := ⟨rfl, fun i u b hu => by simp at hu, fun u hu => by simp at hu⟩

theorem rd_one {w : World} {u : Value} {xs : List Value} (h : Rd w u xs) : u.oneCell' = true := by
  obtain ⟨ao, cap, hv, _⟩ := h
  subst hv
  rfl

theorem Bds.snoc {w : World} {us : List Value} {bb : List (List UInt8)} {u : Value} {b : List UInt8} (h : Bds w us bb) (hu : Rd w u (bc b)) : Bds w (us ++ [u]) (bb ++ [b]) := by
  obtain ⟨h1, h2, h3⟩ := h
  refine ⟨by simp [h1], fun i x y hx hy => ?_, fun x hx => ?_⟩
  · rcases Nat.lt_trichotomy i us.length with hi | hi | hi
    · rw [List.getElem?_append_left hi] at hx
      rw [List.getElem?_append_left (by omega)] at hy
      exact h2 i x y hx hy
    · subst hi
      rw [List.getElem?_append_right (Nat.le_refl _)] at hx
      rw [h1, List.getElem?_append_right (Nat.le_refl _)] at hy
      simp at hx hy
      subst hx hy
      exact hu
    · rw [List.getElem?_append_right (by omega)] at hx
      have := (List.getElem?_eq_some_iff.1 hx).1
      simp at this
      omega
  · rcases List.mem_append.1 hx with hx | hx
    · exact h3 x hx
    · simp at hx
      subst hx
      exact rd_one hu

theorem Bds.below {w w' : World} {us : List Value} {bb : List (List UInt8)} (h : Bds w us bb) (hb : Below w.heap.size w w') : Bds w' us bb := ⟨h.1, fun i u b hu hb' => (h.2.1 i u b hu hb').below hb, h.2.2⟩

theorem Bds.toB {w : World} {us : List Value} {bb : List (List UInt8)} {v : Value} (h : Bds w us bb) (hr : Rd w v us) : RdB w v bb := ⟨us, hr, h.1, h.2.1⟩

/-- What bodiesOf answers. -/
def bodiesPost (w' : World) (e : Ending) : Option (List (List UInt8)) → Prop
  | none => e = .returned (.tuple #[.slice none 0 0, .bool false])
  | some bb => ∃ vo vc, e = .returned (.tuple #[.slice vo bb.length vc, .bool true]) ∧ RdB w' (.slice vo bb.length vc) bb

set_option maxRecDepth 100000 in
set_option maxHeartbeats 1000000 in
theorem bodiesOf_any (v : Value) (bs : List UInt8) (w : World) (hrd : Rd w v (bc bs)) (hbl : bs.length ≤ 1000000) :
    Calls Try.prog 100 #[v] w fun e w' => bodiesPost w' e (bodiesR bs) ∧ Below w.heap.size w w' := by
  obtain ⟨ao, cap, hv, hc1, hc2⟩ := hrd.shape
  rw [bc_length] at hc1 hv
  subst hv
  unfold maxLen at hc2
  have HLT : Hid (∀ a l c, Value.slice ao bs.length cap = .slice (some a) l c → 0 < (bc bs).length → a.block < w.heap.size) := hide hrd.lts
  go_enter Try.func100, Try.ntmps100
  go_wp2_with fail
  refine (ReaderOf_any ao bs.length cap _).mono ?_
  rintro e w1 ⟨rfl, hb1, hz1⟩
  have hzR : w.heap.size < w1.heap.size := by omega
  clear hz1
  go_wp2_with fail
  have hR0 : RdrT (w1.alloc (.cells #[.slice ao bs.length cap, .int .i64 0] 145)) 145 w1.heap.size (.slice ao bs.length cap) (0 : Nat) := heap_alloc_new _ _
  have hF2 : Below w.heap.size w (w1.alloc (.cells #[.slice ao bs.length cap, .int .i64 0] 145)) := hb1.alloc hb1.size _
  generalize w1.alloc (.cells #[.slice ao bs.length cap, .int .i64 0] 145) = wA at *
  generalize w1.heap.size = R at *
  clear hb1
  go_loopw [5] (fun o wr => ∃ (k f : Nat) (acc : List (List UInt8)) (us : List Value), k ≤ bs.length ∧ bodiesGo (f + 1) (bs.drop k) acc = bodiesR bs ∧ bs.length ≤ k + f ∧ acc.length ≤ k ∧ RdrT wr 145 R (.slice ao bs.length cap) k ∧ wr.ownsRow (R + 1) 24 1 o acc.length us ∧ Bds w us acc ∧ Below w.heap.size w wr)
    (fun o _ => bs.length + 1 - lenV o)
  case atStart => exact ⟨0, bs.length, [], [], by omega, rfl, by omega, by simp, hR0, World.ownsRow_nil _ _ _ _, Bds.nil _, hF2⟩
  case round =>
    obtain ⟨k, f, acc, us, hk, hgo, hf, hacc, hr, hown, hbds, hbel⟩ := hrel
    have HG := hide hgo
    clear hgo hR0 hF2
    have hrd1 := hrd.below hbel
    have hszr := hr.facts.2.2.2.2
    have hlen := lenV_owns hown
    by_cases hkl : k = bs.length
    · subst hkl
      rw [List.drop_length] at HG
      go_wp2_with fail
      refine (Done_any _ _ _ _ _ _ _ hr).mono ?_
      rintro e w2 ⟨rfl, q, rfl⟩
      obtain ⟨ao2, cap2, hv2⟩ := owns_shape hown
      subst hv2
      have hRo : Rd (wr.drewN q) (.slice ao2 acc.length cap2) us := Rd.ofOwns hown
      go_wp2_with fail
      go_ret2
      rw [← HG.out, bodiesGo_end]
      exact ⟨⟨_, _, rfl, (hbds.below (below_drewN hbel q)).toB hRo⟩, below_drewN hbel q⟩
    · have hkb : ((k : Int) == bs.length) = false := beq_eq_false_iff_ne.2 (by omega)
      have hne : bs.drop k ≠ [] := by intro h; have := congrArg List.length h; simp at this; omega
      have HN := hide hne
      clear hne
      go_wp2_with fail
      refine (Done_any _ _ _ _ _ _ _ hr).mono ?_
      rintro e w2 ⟨rfl, q, rfl⟩
      go_wp2_with fail
      refine (Frame_any _ R _ bs k (wr.drewN q) (hrd1.drewN q) (fun a l c e hp => by have := HLT.out a l c e hp; omega) hr hk hbl).mono ?_
      rintro e w3 hp
      have hwq : ∀ {x : World}, (wr.drewN q).grownBy x (some R) → x.ownsRow (R + 1) 24 1 u5 acc.length us ∧ Below w.heap.size w x ∧ R < x.heap.size := fun h => ⟨owns_grown (w := wr.drewN q) hown h (by omega), (below_drewN hbel q).grown h (by show _ ≤ wr.heap.size; exact hbel.size) (fun j hj => by simp at hj; omega), by have := h.size; have e : (wr.drewN q).heap.size = wr.heap.size := rfl; omega⟩
      cases hn : frameAt (bs.drop k) with
      | none =>
        rw [hn] at hp
        obtain ⟨rfl, hr3, hg3⟩ := hp
        obtain ⟨hown3, hbel3, hsz3⟩ := hwq hg3
        have HM := hide (@bodiesGo_bad f (bs.drop k) acc HN.out hn)
        clear hn hwq hg3 hown hbel
        go_wp2_with fail
        go_ret2
        rw [← HG.out, HM.out]
        exact ⟨rfl, hbel3⟩
      | some body =>
        rw [hn] at hp
        obtain ⟨uo, uc, rfl, hu3, hub, hr3, hg3⟩ := hp
        obtain ⟨hown3, hbel3, hsz3⟩ := hwq hg3
        have hml := frameAt_len hn
        rw [List.length_drop] at hml
        have HM := hide (@bodiesGo_step f (bs.drop k) body acc HN.out hn)
        have hu : Rd w (.slice uo body.length uc) (bc body) := by
          refine hu3.back hbel3 (fun a l c e hp => ?_)
          simp only [Value.slice.injEq] at e
          obtain ⟨a', l', c', h1, h2⟩ := hub a e.1
          rw [h2]
          exact HLT.out a' l' c' h1 (by rw [bc_length]; omega)
        have hbds3 := hbds.snoc hu
        clear hn hwq hg3 hown hbel
        obtain ⟨ao2, cap2, hv2⟩ := owns_shape hown3
        subst hv2
        go_wp2_with (at_builtin; go_must (refine wpList_append_one hown3 Try.underlying60 Try.info24 rfl rfl rfl rfl rfl rfl (by omega) (by decide) (by omega) ?_); intro v6 w6 ho6 hb6 hg6)
        have hlen6 := lenV_owns ho6
        have hr6 : RdrT w6 145 R (.slice ao bs.length cap) (k + (body.length + 6) : Nat) := by
          unfold RdrT
          rw [hb6.block _ (by omega)]
          exact hr3
        go_roundw
        case rel =>
          obtain ⟨f', rfl⟩ : ∃ f', f = f' + 1 := ⟨f - 1, by omega⟩
          refine ⟨k + (body.length + 6), f', acc ++ [body], us ++ [.slice uo body.length uc], by omega, ?_, by omega, by simp; omega, hr6, by simpa using ho6, hbds3, hbel3.trans (hb6.mono (by omega))⟩
          rw [← HG.out, HM.out, List.drop_drop]
        case measure => rw [hlen6, hlen]; omega

end Go.Proofs.Ytlebbkbbmgmmjac

/-
  The walks over file.pieces and file.readIndex.
-/
namespace Go.Proofs.Ytlebbkbbmgmmjac
open Go.RowKit

theorem RdB.uptoF {w : World} {ao : Option Addr} {n cap hi : Nat} {bb : List (List UInt8)} (h : RdB w (.slice ao n cap) bb) (h1 : hi ≤ n) : RdB w (Go.sliced ao 0 hi cap 1) (bb.take hi) := by
  obtain ⟨vs, hr, hl, hg⟩ := h
  refine ⟨vs.take hi, hr.upto h1, by simp [hl], fun i u b hu hb => ?_⟩
  rw [List.getElem?_take] at hu hb
  split at hu
  · rename_i hi'
    rw [if_pos hi'] at hb
    exact hg i u b hu hb
  · cases hu

theorem RdB.shape {w : World} {v : Value} {bb : List (List UInt8)} (h : RdB w v bb) : ∃ ao cap, v = .slice ao bb.length cap ∧ bb.length ≤ cap ∧ cap ≤ maxLen := by
  obtain ⟨vs, hr, hl, _⟩ := h
  obtain ⟨ao, cap, hv, h1, h2⟩ := hr.shape
  rw [hl] at hv h1
  exact ⟨ao, cap, hv, h1, h2⟩

theorem Try.infoS9 : (Try.prog.info? 9).map (fun i => (i.zero, i.size, i.bytes)) = some (some (.string ⟨#[]⟩), 1, 16) := by kernel_rfl

theorem sc_snoc' (l : List (List UInt8)) (x : List UInt8) : sc l ++ [.string ⟨x.toArray⟩] = sc (l ++ [x]) := by rw [sc_append]; rfl

/-- What pieces answers. -/
def piecesPost (w' : World) (e : Ending) : Option (List (List UInt8) × List UInt8 × List UInt8) → Prop
  | none => e = .returned (.tuple #[.slice none 0 0, .slice none 0 0, .slice none 0 0, .bool false])
  | some (bl, ix, bits) => ∃ v1 v2 v3, e = .returned (.tuple #[v1, v2, v3, .bool true]) ∧ RdB w' v1 bl ∧ Rd w' v2 (bc ix) ∧ Rd w' v3 (bc bits)

set_option maxRecDepth 100000 in
set_option maxHeartbeats 1000000 in
theorem pieces_any (v : Value) (bs : List UInt8) (w : World) (hrd : Rd w v (bc bs)) (hbl : bs.length ≤ 1000000) :
    Calls Try.prog 82 #[v] w fun e w' => piecesPost w' e (piecesR bs) ∧ Below w.heap.size w w' := by
  have HB := hide (bodiesOf_any v bs w hrd hbl)
  cases hn : bodiesR bs with
  | none =>
    have HE := hide (piecesR_no hn)
    rw [hn] at HB
    clear hn
    go_enter Try.func82, Try.ntmps82
    go_wp2_with fail
    refine HB.out.mono ?_
    rintro e w1 ⟨rfl, hb1⟩
    go_wp2_with fail
    exact bodyPost_ret (v := .tuple #[.slice none 0 0, .slice none 0 0, .slice none 0 0, .bool false]) (by simp [results, Try.results82, go_sem]) rfl ⟨by rw [HE.out]; rfl, hb1⟩
  | some bb =>
    have HE := hide (piecesR_of hn)
    rw [hn] at HB
    clear hn
    by_cases h2 : bb.length < 2
    · have HP := hide (piecesB_few h2)
      have h2' : (bb.length : Int) - 1 < 1 := by omega
      go_enter Try.func82, Try.ntmps82
      go_wp2_with fail
      refine HB.out.mono ?_
      rintro e w1 ⟨⟨vo, vc, rfl, hB⟩, hb1⟩
      go_wp2_with fail
      exact bodyPost_ret (v := .tuple #[.slice none 0 0, .slice none 0 0, .slice none 0 0, .bool false]) (by simp [results, Try.results82, go_sem]) rfl ⟨by rw [HE.out, HP.out]; rfl, hb1⟩
    · obtain ⟨m, hm⟩ : ∃ m, bb.length = m + 2 := ⟨bb.length - 2, by omega⟩
      obtain ⟨y, hy⟩ : ∃ y, bb[m + 1]? = some y := ⟨_, List.getElem?_eq_getElem (by omega)⟩
      obtain ⟨x, hx⟩ : ∃ x, bb[m]? = some x := ⟨_, List.getElem?_eq_getElem (by omega)⟩
      have hyd : bb.getD (bb.length - 1) [] = y := by rw [List.getD_eq_getElem?_getD, show bb.length - 1 = m + 1 by omega, hy]; rfl
      have hxd : bb.getD (bb.length - 2) [] = x := by rw [List.getD_eq_getElem?_getD, show bb.length - 2 = m by omega, hx]; rfl
      have hnone := @piecesB_none bb h2
      have hok := @piecesB_ok bb h2
      rw [hyd, hxd] at hok
      rw [hyd] at hnone
      have hm2 : bb.length - 2 = m := by omega
      rw [hm2] at hok
      have HX := hide hx
      have HY := hide hy
      have HM := hide hm
      have HNO := hide hnone
      have HOK := hide hok
      clear hnone hok hyd hxd hm2 hx hy
      go_enter Try.func82, Try.ntmps82
      go_wp2_with fail
      refine HB.out.mono ?_
      rintro e w1 ⟨⟨vo, vc, rfl, hB⟩, hb1⟩
      obtain ⟨bo, bcap, hv, hd1, hd2, hcell⟩ := hB.open
      simp only [Value.slice.injEq, true_and] at hv
      obtain ⟨rfl, rfl⟩ := hv
      unfold maxLen at hd2
      obtain ⟨b, off, uy, rfl, hbb, hcy, hry⟩ := hcell (m + 1) (by omega)
      obtain ⟨b', off', ux, hbo', _, hcx, hrx⟩ := hcell m (by omega)
      simp only [Option.some.injEq, Addr.mk.injEq, and_true] at hbo'
      obtain ⟨rfl, rfl⟩ := hbo'
      rw [(List.getElem?_eq_some_iff.1 HY.out).2] at hry
      rw [(List.getElem?_eq_some_iff.1 HX.out).2] at hrx
      clear hcell HX HY
      have hs := run_slice_upto (P := Try.prog) Try.underlying60 (by kernel_rfl) Try.info24 (some ⟨b, off, none⟩) bb.length vc m (m : Int) rfl (by omega)
      have hU := hB.uptoF (hi := m) (by omega)
      generalize Go.sliced (some ⟨b, off, none⟩) 0 m vc 1 = U at hs hU
      obtain ⟨yo, ycap, hvy, _, _⟩ := hry.shape
      rw [bc_length] at hvy
      subst hvy
      obtain ⟨xo, xcap, hvx, _, _⟩ := hrx.shape
      rw [bc_length] at hvx
      subst hvx
      have hl1 : (bb.length : Int) - 1 = (m : Int) + 1 := by omega
      have hl2 : (m : Int) + 1 < (bb.length : Int) := by omega
      have hl3 : (m : Int) < (bb.length : Int) := by omega
      have hl4 : ¬ (m : Int) + 1 < 1 := by omega
      have hw1 : IntKind.i64.wrap ((m : Int) + 1 - 1) = (m : Int) := by rw [IntKind.wrap_i64]; omega
      have hw2 : IntKind.i64.wrap (m : Int) = (m : Int) := by rw [IntKind.wrap_i64]; omega
      clear HB hm HM h2
      by_cases hy0 : y = []
      · subst hy0
        have HP := hide (HNO.out rfl)
        clear HNO HOK
        simp only [List.length_nil] at hcy
        go_wp2_with fail
        exact bodyPost_ret (v := .tuple #[.slice none 0 0, .slice none 0 0, .slice none 0 0, .bool false]) (by simp [results, Try.results82, go_sem]) rfl ⟨by rw [HE.out, HP.out]; rfl, hb1⟩
      · have HP := hide (HOK.out hy0)
        have hyl : ((y.length : Int) == 0) = false := by
          have : 0 < y.length := List.length_pos_iff.2 hy0
          exact beq_eq_false_iff_ne.2 (by omega)
        clear HNO HOK hy0
        go_wp2_with fail
        go_quiet (fail)
        go_wp2_with fail
        exact bodyPost_ret (v := .tuple #[U, .slice xo x.length xcap, .slice yo y.length ycap, .bool true]) (by simp [results, Try.results82, go_sem]) rfl ⟨by rw [HE.out, HP.out]; exact ⟨_, _, _, rfl, hU.drewN _, hrx.drewN _, hry.drewN _⟩, below_drewN hb1 _⟩

/-- What readIndex answers. -/
def rixPost (w' : World) (e : Ending) : Option (List (List UInt8)) → Prop
  | none => ∃ v, e = .returned (.tuple #[v, .bool false])
  | some rows => ∃ v, e = .returned (.tuple #[v, .bool true]) ∧ Rd w' v (sc rows)

set_option maxRecDepth 100000 in
set_option maxHeartbeats 1000000 in
theorem readIndex_any (vx vB : Value) (ix : List UInt8) (bl : List (List UInt8)) (w : World) (hx : Rd w vx (bc ix)) (hB : RdB w vB bl) (hbn : bl.length ≤ 1000000) :
    Calls Try.prog 83 #[vx, vB] w fun e w' => rixPost w' e (rixGo ix bl []) ∧ Below w.heap.size w w' := by
  obtain ⟨ao, cap, hv, hc1, hc2⟩ := hx.shape
  rw [bc_length] at hc1 hv
  subst hv
  unfold maxLen at hc2
  obtain ⟨bo, bcap, hbv, hd1, hd2, hcell⟩ := hB.open
  subst hbv
  unfold maxLen at hd2
  have HLT : Hid (∀ a l c, Value.slice ao ix.length cap = .slice (some a) l c → 0 < (bc ix).length → a.block < w.heap.size) := hide hx.lts
  go_enter Try.func83, Try.ntmps83
  go_wp2_with fail
  refine (ReaderOf_any ao ix.length cap _).mono ?_
  rintro e w1 ⟨rfl, hb1, hz1⟩
  have hzR : w.heap.size < w1.heap.size := by omega
  clear hz1
  go_wp2_with fail
  have hR0 : RdrT (w1.alloc (.cells #[.slice ao ix.length cap, .int .i64 0] 145)) 145 w1.heap.size (.slice ao ix.length cap) (0 : Nat) := heap_alloc_new _ _
  have hF2 : Below w.heap.size w (w1.alloc (.cells #[.slice ao ix.length cap, .int .i64 0] 145)) := hb1.alloc hb1.size _
  generalize w1.alloc (.cells #[.slice ao ix.length cap, .int .i64 0] 145) = wA at *
  generalize w1.heap.size = R at *
  clear hb1
  go_loopw [7, 18] (fun o i wr => ∃ (k j : Nat) (acc : List (List UInt8)), j ≤ bl.length ∧ i = .int .i64 j ∧ k ≤ ix.length ∧ rixGo (ix.drop k) (bl.drop j) acc = rixGo ix bl [] ∧ acc.length ≤ j ∧ RdrT wr 145 R (.slice ao ix.length cap) k ∧ wr.ownsRow (R + 1) 9 1 o acc.length (sc acc) ∧ Below w.heap.size w wr)
    (fun _ i _ => bl.length - (intOf i).toNat)
  case atStart => exact ⟨0, 0, [], by omega, rfl, by omega, rfl, by simp, hR0, World.ownsRow_nil _ _ _ _, hF2⟩
  case round =>
    obtain ⟨k, j, acc, hj, rfl, hk, hgo, hacc, hr, hown, hbel⟩ := hrel
    have HG := hide hgo
    clear hgo hR0 hF2
    have hx1 := hx.below hbel
    have hszr := hr.facts.2.2.2.2
    have hblk : ∀ a l c, Value.slice ao ix.length cap = .slice (some a) l c → 0 < (bc ix).length → a.block ≠ R := fun a l c e hp => by have := HLT.out a l c e hp; omega
    have HBK := hide hblk
    clear hblk
    by_cases hlt : j < bl.length
    · obtain ⟨b, off, u, rfl, hbb, hcu, hru⟩ := hcell j hlt
      have hdr := drop_cons bl j hlt
      have hck : wr.cell? ⟨b, off + j, none⟩ = some u := (hbel.cell (by exact hbb)).trans hcu
      generalize bl[j] = blk at *
      rw [hdr] at HG
      obtain ⟨uo, ucap, hvu, _, _⟩ := hru.shape
      rw [bc_length] at hvu
      subst hvu
      clear hcell hcu hdr
      go_wp2_with fail
      refine (Text_ex _ R _ ix k _ hx1 HBK.out hr hk).mono ?_
      rintro e w2 ⟨s1, b1, m1, rfl, hk1, hr2, hg2, hT1, hF1⟩
      have hx2 := hx1.grownT hg2 HBK.out
      have hown2 := owns_grown hown hg2 (by omega)
      have hbel2 : Below w.heap.size w w2 := hbel.grown hg2 hbel.size (fun j hj => by simp at hj; omega)
      clear hown hbel hr hx1 hg2 hck
      go_wp2_with fail
      refine (Num_ex _ R _ ix (k + m1) _ hx2 hr2 hk1).mono ?_
      rintro e w3 ⟨n2, b2, m2, rfl, hn2, hk2, hr3, hg3, hT2, hF2⟩
      have hown3 := owns_grown hown2 hg3 (by omega)
      have hbel3 : Below w.heap.size w w3 := hbel2.grown hg3 hbel2.size (fun j hj => by simp at hj; omega)
      have hsz3 := hr3.facts.2.2.2.2
      clear hown2 hbel2 hr2 hg3
      rw [← List.drop_drop] at hT2 hF2
      have hdd : (ix.drop k).drop (m1 + m2) = ix.drop (k + m1 + m2) := by rw [List.drop_drop, Nat.add_assoc]
      have hall : (rixGo (ix.drop k) (blk :: bl.drop (j + 1)) acc = none ∧ (b1 = false ∨ b1 = true ∧ b2 = false ∨ b1 = true ∧ b2 = true ∧ ((n2 : Int) == blk.length) = false)) ∨ (b1 = true ∧ b2 = true ∧ ((n2 : Int) == blk.length) = true ∧ rixGo (ix.drop k) (blk :: bl.drop (j + 1)) acc = rixGo (ix.drop (k + m1 + m2)) (bl.drop (j + 1)) (acc ++ [s1])) := by
        cases b1
        · exact .inl ⟨rixGo_t (hF1 rfl), by simp⟩
        · cases b2
          · exact .inl ⟨rixGo_n (hT1 rfl) (hF2 rfl), by simp⟩
          · by_cases he : n2 = blk.length
            · exact .inr ⟨rfl, rfl, beq_iff_eq.2 (by omega), by rw [rixGo_ok (hT1 rfl) (hT2 rfl) he, hdd]⟩
            · exact .inl ⟨rixGo_l (hT1 rfl) (hT2 rfl) he, .inr (.inr ⟨rfl, rfl, beq_eq_false_iff_ne.2 (by omega)⟩)⟩
      clear hT1 hF1 hT2 hF2 hdd
      rcases hall with ⟨hE, h | ⟨h1, h⟩ | ⟨h1, h2, h⟩⟩ | ⟨h1, h2, h3, hE⟩
      iterate 3
        · have HE := hide hE
          clear hE
          subst_vars
          go_wp2_with fail
          go_ret2
          rw [← HG.out, HE.out]
          exact ⟨⟨_, rfl⟩, hbel3⟩
      · have HE := hide hE
        clear hE
        subst h1 h2
        go_wp2_with (at_builtin; go_must (refine wpList_append_one hown3 Try.underlying89 Try.infoS9 rfl rfl rfl rfl rfl rfl (by omega) (by decide) (by omega) ?_); intro v6 w6 ho6 hb6 hg6)
        rw [sc_snoc'] at ho6
        have hr6 : RdrT w6 145 R (.slice ao ix.length cap) (k + m1 + m2 : Nat) := by
          unfold RdrT
          rw [hb6.block _ (by omega)]
          exact hr3
        go_roundw
        case rel => exact ⟨k + m1 + m2, j + 1, acc ++ [s1], by omega, by go_num, hk2, by rw [← HG.out, HE.out], by simp; omega, hr6, by simpa using ho6, hbel3.trans (hb6.mono (by omega))⟩
        case measure => simp [intOf]; omega
    · have hdn : bl.drop j = [] := List.drop_eq_nil_of_le (by omega)
      rw [hdn, rixGo_end] at HG
      go_wp2_with fail
      refine (Done_any _ _ _ _ _ _ _ hr).mono ?_
      rintro e w2 ⟨rfl, q, rfl⟩
      obtain ⟨ao2, cap2, hv2⟩ := owns_shape hown
      subst hv2
      have hRo : Rd (wr.drewN q) (.slice ao2 acc.length cap2) (sc acc) := Rd.ofOwns hown
      by_cases he : k = ix.length
      · subst he
        rw [List.drop_length, if_pos rfl] at HG
        go_wp2_with fail
        go_ret2
        rw [← HG.out]
        exact ⟨⟨_, by simp, hRo⟩, below_drewN hbel q⟩
      · have hne : ix.drop k ≠ [] := by intro h; have := congrArg List.length h; simp at this; omega
        rw [if_neg hne] at HG
        have hkb : ((k : Int) == ix.length) = false := beq_eq_false_iff_ne.2 (by omega)
        rw [hkb]
        go_wp2_with fail
        go_ret2
        rw [← HG.out]
        exact ⟨⟨_, rfl⟩, below_drewN hbel q⟩

end Go.Proofs.Ytlebbkbbmgmmjac

/-
  The walk over file.readBlocks.
-/
namespace Go.Proofs.Ytlebbkbbmgmmjac
open Go.RowKit

/-- What readBlocks answers. -/
def rbPost (w' : World) (e : Ending) : Option (List Cl) → Prop
  | none => ∃ v, e = .returned (.tuple #[v, .bool false])
  | some cs => ∃ v, e = .returned (.tuple #[v, .bool true]) ∧ RdC w' v cs

theorem rdCells_fine : ∀ (f : Nat) (bs : List UInt8) (acc : List Cl), (∀ c ∈ acc, codeC c = 0) → (rdCells (f + 1) bs acc).2.1 = 0 → f ≥ bs.length → (rdCells (f + 1) bs acc).2 = (0, 0) ∧ (checkC (rdCells (f + 1) bs acc).1).1 = 0
  | f, bs, acc, ha, h, hf => by
    rw [rdCells] at h ⊢
    by_cases hb : bs = []
    · rw [if_pos hb] at h ⊢
      by_cases hc : (checkC acc).1 = 0
      · rw [if_pos hc] at h ⊢
        exact ⟨rfl, hc⟩
      · rw [if_neg hc] at h
        exact absurd h hc
    · rw [if_neg hb] at h ⊢
      cases hn : cellAt bs with
      | none => rw [hn] at h; simp at h
      | some p =>
        obtain ⟨c, k⟩ := p
        rw [hn] at h
        simp only at h ⊢
        obtain ⟨_, hcc, hk0, hkl⟩ := cellAt_len hn
        obtain ⟨f', rfl⟩ : ∃ f', f = f' + 1 := ⟨f - 1, by have : 0 < bs.length := List.length_pos_iff.2 hb; omega⟩
        refine rdCells_fine f' (bs.drop k) (acc ++ [c]) (fun d hd => ?_) h (by rw [List.length_drop]; omega)
        rcases List.mem_append.1 hd with hd | hd
        · exact ha d hd
        · simp at hd; subst hd; exact hcc

theorem readCR_fine {bs : List UInt8} (h : (readCR bs).2.1 = 0) : (readCR bs).2 = (0, 0) ∧ (checkC (readCR bs).1).1 = 0 := by
  unfold readCR at h ⊢
  split
  · rename_i h1; rw [if_pos h1] at h; simp at h
  · rename_i h1
    rw [if_neg h1] at h
    exact rdCells_fine _ _ _ (by simp) h (Nat.le_refl _)

set_option maxRecDepth 100000 in
set_option maxHeartbeats 1000000 in
theorem readBlocks_any (vB vR : Value) (bl rows : List (List UInt8)) (w : World) (hB : RdB w vB bl) (hR : Rd w vR (sc rows)) (hl : rows.length = bl.length) (hbn : bl.length ≤ 100000) :
    Calls Try.prog 84 #[vB, vR] w fun e w' => rbPost w' e (rbR bl rows) ∧ Below w.heap.size w w' := by
  obtain ⟨bo, bcap, hbv, hd1, hd2, hcell⟩ := hB.open
  subst hbv
  unfold maxLen at hd2
  obtain ⟨ro, rcap, hrv, he1, he2, hrcell⟩ := hR.open
  rw [sc_length] at hrv he1 hrcell
  subst hrv
  unfold maxLen at he2
  have HL := hide hl
  clear hl
  go_enter Try.func84, Try.ntmps84
  go_wp2_with fail
  go_loopw [6, 13] (fun o i wr => ∃ (j : Nat) (acc : List Cl), j ≤ bl.length ∧ i = .int .i64 j ∧ rbGo (bl.drop j) (rows.drop j) acc = rbGo bl rows [] ∧ acc.length ≤ 1000 * j ∧ wr.ownsRow w.heap.size 53 5 o acc.length (cc acc) ∧ Below w.heap.size w wr)
    (fun _ i _ => bl.length - (intOf i).toNat)
  case atStart => exact ⟨0, [], by omega, rfl, rfl, by simp, World.ownsRow_nil _ _ _ _, Below.refl _ _⟩
  case round =>
    obtain ⟨j, acc, hj, rfl, hgo, hacc, hown, hbel⟩ := hrel
    have HG := hide hgo
    clear hgo
    have hszr := hbel.size
    by_cases hlt : j < bl.length
    · obtain ⟨b, off, u, rfl, hbb, hcu, hru⟩ := hcell j hlt
      have hjr : j < rows.length := by rw [HL.out]; exact hlt
      obtain ⟨br, offr, rfl, hbr, hrc⟩ := hrcell j hjr
      have hdr := drop_cons bl j hlt
      have hdr2 := drop_cons rows j hjr
      have hrt : w.cell? ⟨br, offr + j, none⟩ = some (.string ⟨rows[j].toArray⟩) := hrc j _ (by simp [sc, hjr])
      have hck : wr.cell? ⟨b, off + j, none⟩ = some u := (hbel.cell (by exact hbb)).trans hcu
      have hru1 := hru.below hbel
      generalize bl[j] = blk at *
      generalize rows[j] = t at *
      rw [hdr, hdr2] at HG
      obtain ⟨uo, ucap, hvu, _, _⟩ := hru.shape
      rw [bc_length] at hvu
      subst hvu
      have hj1 : (j : Int) < (rows.length : Int) := by omega
      clear hcell hcu hdr hdr2 hrcell hrc
      go_wp2_with fail
      refine (CRead_any _ blk _ hru1).mono ?_
      rintro e w2 ⟨v2, rfl, hr2, hb2, _⟩
      have hbel2 : Below w.heap.size w w2 := hbel.trans (hb2.mono hszr)
      have hown2 := owns_below hown hb2
      have hz2 := hbel2.size
      clear hown hbel hb2 hck hru1
      have HBAD := hide (@rbGo_bad blk (bl.drop (j + 1)) (t :: rows.drop (j + 1)) acc)
      have HNONE := hide (@rbGo_none blk (bl.drop (j + 1)) (t :: rows.drop (j + 1)) acc)
      have HROW := hide (fun (c : Cl) (l : List Cl) => @rbGo_row blk (bl.drop (j + 1)) (t :: rows.drop (j + 1)) acc c l)
      have HOK := hide (fun (c : Cl) (l : List Cl) => @rbGo_ok blk (bl.drop (j + 1)) (t :: rows.drop (j + 1)) acc c l)
      have HFINE := hide (@readCR_fine blk)
      generalize readCR blk = RC at *
      obtain ⟨L, x, y⟩ := RC
      simp only at hr2 ⊢
      unfold fltC
      obtain ⟨lo, lcap, hvl, hl1, hl2⟩ := hr2.shape
      subst hvl
      unfold maxLen at hl2
      have hrA := hr2.alloc (.cells #[.int .i64 x, .int .i64 y] 26)
      have hbelA : Below w.heap.size w (w2.alloc (.cells #[.int .i64 x, .int .i64 y] 26)) := hbel2.alloc hz2 _
      have hFA := Bk.new w2 26 #[.int .i64 x, .int .i64 y]
      have hownA := hown2.alloc (.cells #[.int .i64 x, .int .i64 y] 26)
      have hzA : w.heap.size ≤ (w2.alloc (.cells #[.int .i64 x, .int .i64 y] 26)).heap.size := hbelA.size
      go_wp2_with fail
      generalize w2.alloc (.cells #[.int .i64 x, .int .i64 y] 26) = wA at *
      generalize w2.heap.size = zF at *
      have f0 := hFA.cell 0
      have f1 := hFA.cell 1
      simp at f0 f1
      clear hown2 hbel2 hr2
      by_cases hx : x = 0
      · subst hx
        obtain ⟨hxy, hfn⟩ := HFINE.out rfl
        simp only [Prod.mk.injEq, true_and] at hxy
        subst hxy
        have hl10 : L.length ≤ 1000 := fine_len hfn
        cases L with
        | nil =>
          have HE := hide (HNONE.out rfl rfl)
          simp only [List.length_nil]
          go_quiet (fail)
          go_wp2_with fail
          go_ret2
          rw [rbR, ← HG.out, HE.out]
          exact ⟨⟨_, rfl⟩, below_drewN hbelA _⟩
        | cons c l =>
          obtain ⟨bl3, off3, rfl, _, hat3⟩ := hrA.hereD (i := 0) (c := c) rfl
          rw [Nat.zero_mul, Nat.add_zero] at hat3
          have hc0 := hat3.c0
          have hct : wA.cell? ⟨br, offr + j, none⟩ = some (.string ⟨t.toArray⟩) := (hbelA.cell (by exact hbr)).trans hrt
          have hLl : (((c :: l).length : Int) == 0) = false := beq_eq_false_iff_ne.2 (by rw [List.length_cons]; omega)
          have hL1 : (0 : Int) < ((c :: l).length : Int) := by rw [List.length_cons]; omega
          have hcl : (c :: l).length = l.length + 1 := rfl
          by_cases hq : c.row.data.toList = t
          · have HE := hide (HOK.out c l rfl rfl (by simp [hq]))
            have hqb : (c.row.toList == t) = true := by rw [ba_list, hq]; simp
            clear hq HNONE HBAD HROW HOK HFINE
            go_quiet (fail)
            have hownq : (wA.drewN nq).ownsRow w.heap.size 53 5 u6 acc.length (cc acc) := hownA
            have hrq : RdC (wA.drewN nq) (.slice (some ⟨bl3, off3, none⟩) (l.length + 1) lcap) (c :: l) := hrA
            have hln : acc.length + (c :: l).length ≤ 1000000000 := by omega
            have hbelq : Below w.heap.size w (wA.drewN nq) := below_drewN hbelA nq
            have hzq : w.heap.size ≤ (wA.drewN nq).heap.size := hzA
            go_wp2_with (at_builtin; go_must (refine wpList_append_rdC hownq hrq Try.underlying22 Try.info53 rfl rfl rfl rfl rfl hln (by decide) hzq ?_); intro v6 w6 ho6 hb6 hg6)
            go_roundw
            case rel =>
              exact ⟨j + 1, acc ++ (c :: l), by omega, by go_num, by rw [← HG.out, HE.out]; rfl, by rw [List.length_append]; omega, by rw [List.length_append]; exact ho6, hbelq.trans hb6⟩
            case measure => simp [intOf]; omega
          · have HE := hide (HROW.out c l rfl rfl (by simp [hq]))
            have hqb : (c.row.toList == t) = false := by rw [ba_list]; simp [hq]
            clear hq HNONE HBAD HROW HOK HFINE
            go_quiet (fail)
            go_wp2_with fail
            go_ret2
            rw [rbR, ← HG.out, HE.out]
            exact ⟨⟨_, rfl⟩, below_drewN hbelA _⟩
      · have HE := hide (HBAD.out hx)
        have hxb : (x == 0) = false := beq_eq_false_iff_ne.2 hx
        clear HNONE HBAD HROW HOK HFINE
        go_quiet (fail)
        go_wp2_with fail
        go_ret2
        rw [rbR, ← HG.out, HE.out]
        exact ⟨⟨_, rfl⟩, below_drewN hbelA _⟩
    · have hdn : bl.drop j = [] := List.drop_eq_nil_of_le (by omega)
      rw [hdn, rbGo] at HG
      obtain ⟨ao2, cap2, hv2⟩ := ownsC_shape hown
      subst hv2
      have hrc := RdC.ofOwns hown
      by_cases h5 : acc.length ≤ 500
      · have h5' : (acc.length : Int) ≤ 500 := by omega
        have hrE : rbR bl rows = if (checkC acc).1 = 0 then some acc else none := by rw [rbR, ← HG.out]; simp only; rw [if_pos h5]
        have HRE := hide hrE
        clear hrE
        go_wp2_with fail
        by_cases hc : (checkC acc).1 = 0
        · have hcz := checkC_zero hc
          have HC := hide hc
          have HCZ := hide hcz
          clear hc hcz
          go_region_held3 (fun _ => True) (trivial) (first
            | (go_at_call 46; refine (CCheck_any _ acc _ (by exact hrc)).mono ?_; rintro e w2 ⟨rfl, hb2⟩; rw [HCZ.out]; unfold fltC; have hx2 : Below wr.heap.size wr w2 := Below.trans (by go_grown) hb2))
          all_goals
            go_wp2_with fail
            go_ret2
            rw [HRE.out, if_pos HC.out]
            exact ⟨⟨_, rfl, hrc.below hx2⟩, hbel.trans (hx2.mono hszr)⟩
        · have HC := hide hc
          have hcb : ((checkC acc).1 == 0) = false := beq_eq_false_iff_ne.2 hc
          generalize hck : checkC acc = r at *
          obtain ⟨x, y⟩ := r
          have HCK := hide hck
          simp only at hcb
          clear hc hck
          go_region_held3 (fun _ => True) (trivial) (first
            | (go_at_call 46; refine (CCheck_any _ acc _ (by exact hrc)).mono ?_; rintro e w2 ⟨rfl, hb2⟩; rw [HCK.out]; unfold fltC; have hx2 : Below wr.heap.size wr w2 := Below.trans (by go_grown) hb2))
          all_goals
            go_wp2_with fail
            go_ret2
            rw [HRE.out, if_neg HC.out]
            exact ⟨⟨_, rfl⟩, hbel.trans (hx2.mono hszr)⟩
      · have h5' : ¬ (acc.length : Int) ≤ 500 := by omega
        have hrE : rbR bl rows = none := by rw [rbR, ← HG.out]; simp only; rw [if_neg h5]
        have HRE := hide hrE
        clear hrE
        have hd5 : decide ((acc.length : Int) ≤ 500) = false := decide_eq_false h5'
        have hd6 : decide (acc.length ≤ 500) = false := decide_eq_false h5
        clear h5 h5'
        go_wp2_with fail
        go_region
        all_goals
          go_wp2_with fail
          go_ret2
          rw [HRE.out]
          exact ⟨⟨_, rfl⟩, by go_grown⟩

end Go.Proofs.Ytlebbkbbmgmmjac

/-
  The walks over a file's filter: placesOf, has.
-/
namespace Go.Proofs.Ytlebbkbbmgmmjac
open Go.RowKit

/-- '[]byte(s)'. -/
theorem conv_rd {P : Program} {src dst e : TypeId} (hs : P.underlying src = some .string) (hd : P.underlying dst = some (.slice e)) (he : P.underlying e = some (.int .u8)) (s : ByteArray) (w : World) (hl : s.size ≤ 9223372036854775807) :
    ∃ vo vc W, (convert src dst (.string s)).run P w = .ok (.slice vo s.data.toList.length vc) W ∧ Rd W (.slice vo s.data.toList.length vc) (bc s.data.toList) ∧ Below w.heap.size w W ∧ W.heap.size = w.heap.size + 1 := by
  have hr := Lib.run_convert_string_bytes (P := P) w src dst e s hs hd he
  rw [ba_size] at hr
  refine ⟨_, _, _, hr, ⟨some ⟨w.heap.size, 0, none⟩, _, by rw [bc_length], ?_, ?_, (fun h => by cases h), fun a ha j u hu => ?_⟩, ⟨rfl, rfl, rfl, by rw [Lib.bytesWorld_size]; omega, fun k hk => Lib.bytesWorld_at_old w e s k hk⟩, Lib.bytesWorld_size w e s⟩
  · rw [bc_length]
    exact grownCap_ge _ _ _ _
  · exact grownCap_le_maxLen _ _ _ _ (by rw [← ba_size]; exact hl)
  · cases ha
    rw [Addr.add_lit, Nat.zero_add]
    have hj : j < s.size := by
      have := (List.getElem?_eq_some_iff.1 hu).1
      rw [bc_length] at this
      rw [ba_size]
      exact this
    rw [Lib.bytesWorld_cell w e s j hj, ← hu]
    have hj2 : j < s.data.toList.length := by rw [← ba_size]; exact hj
    simp only [bc, List.getElem?_map, List.getElem?_eq_getElem hj2, Option.map_some, List.getD_eq_getElem?_getD, Option.getD_some]

/-- The places, as far as they are told. -/
def plA (row : List UInt8) (n : Nat) : Nat → Array Value
  | 0 => #[.int .i64 0, .int .i64 0, .int .i64 0]
  | 1 => #[.int .i64 (plc row n 0 : Nat), .int .i64 0, .int .i64 0]
  | 2 => #[.int .i64 (plc row n 0 : Nat), .int .i64 (plc row n 1 : Nat), .int .i64 0]
  | _ => #[.int .i64 (plc row n 0 : Nat), .int .i64 (plc row n 1 : Nat), .int .i64 (plc row n 2 : Nat)]

theorem plc_int (row : List UInt8) (n i : Nat) : (((crc row % 65536 : Nat) : Int) + (i : Int) * ((crc row / 65536 : Nat) : Int)) % (8 * (n : Int)) = ((plc row n i : Nat) : Int) := by
  unfold plc
  simp only [Int.natCast_emod, Int.natCast_add, Int.natCast_mul]
  rfl

set_option maxRecDepth 100000 in
set_option maxHeartbeats 1000000 in
theorem placesOf_any (fo : Option Addr) (n fc : Nat) (row : ByteArray) (w : World) (hn : 0 < n) (hn2 : n ≤ 1000000) (hl : row.size ≤ 9223372036854775807) :
    Calls Try.prog 80 #[.slice fo n fc, .string row] w fun e w' => e = .returned (.agg #[.int .i64 (plc row.data.toList n 0 : Nat), .int .i64 (plc row.data.toList n 1 : Nat), .int .i64 (plc row.data.toList n 2 : Nat)]) ∧ Below w.heap.size w w' := by
  have hB0 := Bk.new w 117 #[.int .i64 0, .int .i64 0, .int .i64 0]
  have hx0 := below_alloc' w (.cells #[.int .i64 0, .int .i64 0, .int .i64 0] 117)
  have hz0 : (w.alloc (.cells #[.int .i64 0, .int .i64 0, .int .i64 0] 117)).heap.size = w.heap.size + 1 := by simp
  obtain ⟨vo, vc, W, hcv, hW, hbW, hzW⟩ := conv_rd (P := Try.prog) Try.underlying9 Try.underlying24 Try.underlying5 row (w.alloc (.cells #[.int .i64 0, .int .i64 0, .int .i64 0] 117)) hl
  have p0 := plc_int row.data.toList n 0
  have p1 := plc_int row.data.toList n 1
  have p2 := plc_int row.data.toList n 2
  have hBW := hB0.below hbW (by omega)
  have hxW := hx0.trans (hbW.mono (by omega))
  have hzw : w.heap.size < W.heap.size := by omega
  clear hbW hzW hB0 hx0 hz0
  go_enter Try.func80, Try.ntmps80
  go_wp2_with fail
  refine (remainder_any _ row.data.toList _ hW).mono ?_
  rintro e w1 ⟨rfl, rfl⟩
  have hcl := crc_lt row.data.toList
  generalize hRw : row.data.toList = R at *
  have HRW := hide hRw
  clear hRw
  have HP0 := hide p0
  have HP1 := hide p1
  have HP2 := hide p2
  clear p0 p1 p2 hcv
  have hpl0 := plc_lt R 0 hn
  have hpl1 := plc_lt R 1 hn
  have hpl2 := plc_lt R 2 hn
  obtain ⟨A0, hA0⟩ : ∃ A, plA R n 0 = A := ⟨_, rfl⟩
  generalize hq0 : plc R n 0 = q0 at *
  generalize hq1 : plc R n 1 = q1 at *
  generalize hq2 : plc R n 2 = q2 at *
  have HQ0 := hide hq0
  have HQ1 := hide hq1
  have HQ2 := hide hq2
  clear hq0 hq1 hq2 hA0
  generalize hS : crc R = S at *
  clear hS
  go_wp2_with fail
  have hB2 := Bk.new w1 117 #[.int .i64 0, .int .i64 0, .int .i64 0]
  have hb2 := below_alloc' w1 (.cells #[.int .i64 0, .int .i64 0, .int .i64 0] 117)
  generalize w1.alloc (.cells #[.int .i64 0, .int .i64 0, .int .i64 0] 117) = w2 at *
  have hlB := hB2.lt
  go_loopw [19] (fun i wr => ∃ k : Nat, k ≤ 3 ∧ i = .int .i64 k ∧ Bk wr w1.heap.size 117 (match k with | 0 => #[.int .i64 0, .int .i64 0, .int .i64 0] | 1 => #[.int .i64 (q0 : Nat), .int .i64 0, .int .i64 0] | 2 => #[.int .i64 (q0 : Nat), .int .i64 (q1 : Nat), .int .i64 0] | _ => #[.int .i64 (q0 : Nat), .int .i64 (q1 : Nat), .int .i64 (q2 : Nat)]) ∧ Below w1.heap.size w1 wr)
    (fun i _ => 3 - (intOf i).toNat)
  case atStart => exact ⟨0, by omega, rfl, hB2, hb2⟩
  case round =>
    obtain ⟨k, hk, rfl, hB, hbel⟩ := hrel
    have hlr := hB.lt
    have h4 : k = 0 ∨ k = 1 ∨ k = 2 ∨ k = 3 := by omega
    have hn8 : (8 * (n : Int)) ≠ 0 := by omega
    rcases h4 with rfl | rfl | rfl | rfl
    · have HEK : Hid ((S : Int) % 65536 % (8 * (n : Int)) = (q0 : Int)) := hide (by have := HP0.out; simpa using this)
      have hm : (0 : Int) ≤ ((S % 65536 : Nat) : Int) + (0 : Nat) * ((S / 65536 : Nat) : Int) := by omega
      have hS2 : ((S / 65536 : Nat) : Int) < 65536 := by omega
      have hS1 : ((S % 65536 : Nat) : Int) < 65536 := by omega
      simp only at hB
      have b0 := hB.cell 0
      have b1 := hB.cell 1
      have b2 := hB.cell 2
      have z0 := hB.frozen 0
      have z1 := hB.frozen 1
      have z2 := hB.frozen 2
      simp at b0 b1 b2
      go_wp2_with fail
      go_roundw
      case rel =>
        refine ⟨1, by omega, by go_num, ?_, hbel.setCell (Nat.le_refl _) _⟩
        rw [HEK.out]
        exact hB.set 0 _
      case measure => decide
    · have HEK : Hid (((S : Int) % 65536 + (S : Int) / 65536) % (8 * (n : Int)) = (q1 : Int)) := hide (by have := HP1.out; simpa using this)
      have hm : (0 : Int) ≤ ((S % 65536 : Nat) : Int) + (1 : Nat) * ((S / 65536 : Nat) : Int) := by omega
      have hS2 : ((S / 65536 : Nat) : Int) < 65536 := by omega
      have hS1 : ((S % 65536 : Nat) : Int) < 65536 := by omega
      simp only at hB
      have b0 := hB.cell 0
      have b1 := hB.cell 1
      have b2 := hB.cell 2
      have z0 := hB.frozen 0
      have z1 := hB.frozen 1
      have z2 := hB.frozen 2
      simp at b0 b1 b2
      go_wp2_with fail
      go_roundw
      case rel =>
        refine ⟨2, by omega, by go_num, ?_, hbel.setCell (Nat.le_refl _) _⟩
        rw [HEK.out]
        exact hB.set 1 _
      case measure => decide
    · have HEK : Hid (((S : Int) % 65536 + 2 * ((S : Int) / 65536)) % (8 * (n : Int)) = (q2 : Int)) := hide (by have := HP2.out; simpa using this)
      have hm : (0 : Int) ≤ ((S % 65536 : Nat) : Int) + (2 : Nat) * ((S / 65536 : Nat) : Int) := by omega
      have hS2 : ((S / 65536 : Nat) : Int) < 65536 := by omega
      have hS1 : ((S % 65536 : Nat) : Int) < 65536 := by omega
      simp only at hB
      have b0 := hB.cell 0
      have b1 := hB.cell 1
      have b2 := hB.cell 2
      have z0 := hB.frozen 0
      have z1 := hB.frozen 1
      have z2 := hB.frozen 2
      simp at b0 b1 b2
      go_wp2_with fail
      go_roundw
      case rel =>
        refine ⟨3, by omega, by go_num, ?_, hbel.setCell (Nat.le_refl _) _⟩
        rw [HEK.out]
        exact hB.set 2 _
      case measure => decide
    · have hBr := hBW.below hbel (by omega)
      have r0 := hBr.cell 0
      have r1 := hBr.cell 1
      have r2 := hBr.cell 2
      have y0 := hBr.frozen 0
      have y1 := hBr.frozen 1
      have y2 := hBr.frozen 2
      have hlr2 := hBr.lt
      simp at r0 r1 r2
      simp only at hB
      have b0 := hB.cell 0
      have b1 := hB.cell 1
      have b2 := hB.cell 2
      have z0 := hB.frozen 0
      have z1 := hB.frozen 1
      have z2 := hB.frozen 2
      simp at b0 b1 b2
      have hbw : Below w.heap.size w wr := hxW.trans (hbel.mono (by omega))
      go_wp2_with fail
      exact bodyPost_ret (v := .agg #[.int .i64 (q0 : Nat), .int .i64 (q1 : Nat), .int .i64 (q2 : Nat)]) (by simp [results, Try.results80, go_sem, r0, r1, r2]) rfl ⟨by rw [HRW.out, HQ0.out, HQ1.out, HQ2.out], by go_grown⟩

/-- 'x[i]' of an array, as an operation. -/
theorem wpList_index_run {P : Program} {w : World} {ops : Array Oper} {rest : List Oper} {o : Oper} {a : Act} {Q : Exit → Act → World → Prop} {t : TypeId} {x i : Operand} {X I u : Value}
    (hgd : o.guard = none) (ho : o.op = .index t x i) (hx : a.eval x = X) (hi : a.eval i = I) (hr : ∀ W, (Instr.index t X I).run P W = .ok u W)
    (h : wpList P ops Q rest (a.put o.dst u) w) : wpList P ops Q (o :: rest) a w := by
  refine wpList_plain hgd fun K hK => ?_
  unfold Oper.wp execOp
  simp only [ho, Sem.run_bind, Sem.run_pure, Result.andThen_ok, hx, hi, hr]
  exact hK _ _ h

theorem index0 (x y z : Int) : ∀ W, (Instr.index 117 (.agg #[.int .i64 x, .int .i64 y, .int .i64 z]) (.int .i64 0)).run Try.prog W = .ok (.int .i64 x) W := fun _ => by kernel_rfl

theorem index1 (x y z : Int) : ∀ W, (Instr.index 117 (.agg #[.int .i64 x, .int .i64 y, .int .i64 z]) (.int .i64 1)).run Try.prog W = .ok (.int .i64 y) W := fun _ => by kernel_rfl

theorem index2 (x y z : Int) : ∀ W, (Instr.index 117 (.agg #[.int .i64 x, .int .i64 y, .int .i64 z]) (.int .i64 2)).run Try.prog W = .ok (.int .i64 z) W := fun _ => by kernel_rfl

theorem bit_shift (x r : Nat) (h : x < 256) : bits .and .u8 ((x : Int) / 2 ^ r) 1 = if x.testBit r then 1 else 0 := by
  have e : (x : Int) / 2 ^ r = ((x / 2 ^ r : Nat) : Int) := by rw [Int.natCast_ediv, Int.natCast_pow]; rfl
  have hx : x / 2 ^ r < 256 := Nat.lt_of_le_of_lt (Nat.div_le_self _ _) h
  rw [e, show (1 : Int) = ((1 : Nat) : Int) from rfl, u8_and_nat _ 1 hx (by decide), Nat.and_one_is_mod, Nat.testBit_eq_decide_div_mod_eq]
  rcases Nat.mod_two_eq_zero_or_one (x / 2 ^ r) with h | h <;> rw [h] <;> simp

set_option maxRecDepth 100000 in
set_option maxHeartbeats 1000000 in
theorem has_any (v : Value) (fl : List UInt8) (row : ByteArray) (w : World) (hF : Rd w v (bc fl)) (hn : 0 < fl.length) (hn2 : fl.length ≤ 1000000) (hl : row.size ≤ 9223372036854775807) :
    Calls Try.prog 57 #[v, .string row] w fun e w' => e = .returned (.bool (hasB fl row.data.toList)) ∧ Below w.heap.size w w' := by
  obtain ⟨b, off, fc, hv, hc1, hc2, hbb, hcell⟩ := hF.pos (by rw [bc_length]; exact hn)
  rw [bc_length] at hv hc1
  subst hv
  unfold maxLen at hc2
  go_enter Try.func57, Try.ntmps57
  go_wp2_with fail
  refine (placesOf_any _ fl.length fc row _ hn hn2 hl).mono ?_
  rintro e w1 ⟨rfl, hb1⟩
  generalize hRw : row.data.toList = R at *
  have HRW := hide hRw
  clear hRw
  go_wp2_with fail
  go_loopw [10] (fun i wr => ∃ k : Nat, k ≤ 3 ∧ i = .int .i64 k ∧ hasGo fl R k = true ∧ wr = w1) (fun i _ => 3 - (intOf i).toNat)
  case atStart => exact ⟨0, by omega, rfl, rfl, rfl⟩
  case round =>
    obtain ⟨k, hk, rfl, hgo, rfl⟩ := hrel
    have HG := hide hgo
    clear hgo
    by_cases hk3 : k < 3
    · have hp := plc_lt R k hn
      have hst : hasGo fl R (k + 1) = (hasGo fl R k && bitB fl (plc R fl.length k)) := rfl
      rw [HG.out, Bool.true_and] at hst
      obtain ⟨x, hx⟩ : ∃ x, fl[plc R fl.length k / 8]? = some x := ⟨_, List.getElem?_eq_getElem (by omega)⟩
      have hbit : bitB fl (plc R fl.length k) = x.toNat.testBit (plc R fl.length k % 8) := by unfold bitB; rw [List.getD_eq_getElem?_getD, hx]; rfl
      have hck : wr.cell? ⟨b, off + plc R fl.length k / 8, none⟩ = some (.int .u8 (x.toNat : Int)) := (hb1.cell (by exact hbb)).trans (hcell _ _ (by simp [bc, hx]))
      rw [hbit] at hst
      have hfalse : x.toNat.testBit (plc R fl.length k % 8) = false → hasB fl R = false := fun h => by
        unfold hasB
        have h3 : ∀ j, k + 1 ≤ j → hasGo fl R j = false := fun j hj => by
          induction j with
          | zero => omega
          | succ j ih =>
            by_cases e : j = k
            · subst e; rw [hst, h]
            · rw [hasGo, ih (by omega), Bool.false_and]
        exact h3 3 (by omega)
      have hbs := bit_shift x.toNat (plc R fl.length k % 8) x.toNat_lt
      have HST := hide hst
      have HF := hide hfalse
      have hpk : k = 0 ∨ k = 1 ∨ k = 2 := by omega
      have hr8 : plc R fl.length k % 8 < 8 := Nat.mod_lt _ (by decide)
      have hd8 : plc R fl.length k / 8 < fl.length := by omega
      clear hst hfalse hbit hx hcell
      rcases hpk with rfl | rfl | rfl
      all_goals
        generalize hq : plc R fl.length _ = q at *
        have hqd : (q : Int) / 8 = ((q / 8 : Nat) : Int) := by omega
        have hqm : (q : Int) % 8 = ((q % 8 : Nat) : Int) := by omega
        have HQ := hide hq
        clear hq
        generalize q / 8 = d at *
        generalize q % 8 = r at *
        cases ht : x.toNat.testBit r
        · rw [ht] at hbs
          simp only [Bool.false_eq_true, if_false] at hbs
          have HH := hide (HF.out ht)
          go_wp2_with (first | refine wpList_index_run rfl rfl rfl rfl (index0 _ _ _) ?_ | refine wpList_index_run rfl rfl rfl rfl (index1 _ _ _) ?_ | refine wpList_index_run rfl rfl rfl rfl (index2 _ _ _) ?_)
          go_ret
          exact ⟨by rw [HRW.out, HH.out]; rfl, hb1⟩
        · rw [ht] at hbs
          simp only [if_true] at hbs
          have HH := hide (HST.out.trans ht)
          clear HST HF
          go_wp2_with (first | refine wpList_index_run rfl rfl rfl rfl (index0 _ _ _) ?_ | refine wpList_index_run rfl rfl rfl rfl (index1 _ _ _) ?_ | refine wpList_index_run rfl rfl rfl rfl (index2 _ _ _) ?_)
          go_roundw
          case rel => exact ⟨_, by omega, by go_num, HH.out, trivial⟩
          case measure => decide
    · obtain rfl : k = 3 := by omega
      go_wp2_with fail
      go_ret
      exact ⟨by unfold hasB; rw [HRW.out, HG.out]; rfl, hb1⟩

end Go.Proofs.Ytlebbkbbmgmmjac

/-
  The walk over file.filterOf.
-/
namespace Go.Proofs.Ytlebbkbbmgmmjac
open Go.RowKit

theorem sc_snocB (l : List (List UInt8)) (x : ByteArray) : sc l ++ [.string x] = sc (l ++ [x.data.toList]) := by
  rw [sc_append]
  simp only [sc, List.map_cons, List.map_nil, ba_data]

/-- 'make([]byte, n)'. -/
theorem wpList_make_zero {P : Program} {w : World} {ops : Array Oper} {rest : List Oper} {o : Oper} {a : Act} {Q : Exit → Act → World → Prop} {l c : Operand} {t e : TypeId} {base n : Nat} {L C : Int}
    (hn : L = (n : Int)) (hn2 : C = (n : Int)) (ht : P.underlying t = some (.slice e)) (hinf : (P.info? e).map (fun i => (i.zero, i.size, i.bytes)) = some (some (.int .u8 0), 1, 1))
    (hgd : o.guard = none) (ho : o.op = Op.makeSlice t l c) (hl : a.eval l = .int .i64 L) (hc : a.eval c = .int .i64 C)
    (h63 : n ≤ 1000000000000) (hbase : base ≤ w.heap.size)
    (h : ∀ w', w'.ownsRow base e 1 (.slice (some ⟨w.heap.size, 0, none⟩) n n) n (bc (List.replicate n 0)) → Below w.heap.size w w' → w.heap.size < w'.heap.size → wpList P ops Q rest (a.put o.dst (.slice (some ⟨w.heap.size, 0, none⟩) n n)) w') : wpList P ops Q (o :: rest) a w := by
  obtain ⟨i, hi, hz, hsize, hby⟩ := info_parts hinf
  refine wpList_make_full w hgd l c t ho base e i (.int .u8 0) 1 ht hi hz hsize .i64 .i64 L C n hl hc hn hn2 ?_ (by simp [maxLen]; omega) hbase (fun w' h1 h2 => ?_)
  · rw [hby]
    omega
  · refine h w' ?_ ⟨h2.os, h2.tape, h2.output, h2.size, fun k hk => h2.block k hk (by simp)⟩ ?_
    · have e1 : bc (List.replicate n 0) = List.replicate n (Value.int .u8 0) := by simp [bc]
      rw [e1]
      have e2 : (madeCells (Value.int IntKind.u8 0).cells (n * 1)).toList = List.replicate n (Value.int .u8 0) := by
        rw [Nat.mul_one, show (Value.int IntKind.u8 0).cells = #[Value.int .u8 0] from rfl]
        refine List.ext_getElem? fun i => ?_
        simp only [madeCells, List.getElem?_replicate]
        by_cases hi : i < n
        · simp [hi, Nat.mod_one]
        · simp [hi]
      rw [← e2]
      exact h1
    · have := (h1.lt w.heap.size rfl).2
      exact this

theorem bc_set (l : List UInt8) (d : Nat) (y : UInt8) : (bc l).set d (.int .u8 (y.toNat : Int)) = bc (l.set d y) := by simp [bc, List.map_set]

theorem or_bit (x : UInt8) (m : Nat) (h : m < 8) : bits .or .u8 (x.toNat : Int) ((2 : Int) ^ m % 256) = (((x ||| UInt8.ofNat (2 ^ m)).toNat : Nat) : Int) := by
  have hp : 2 ^ m < 256 := Nat.lt_of_le_of_lt (Nat.pow_le_pow_right (by decide) (by omega : m ≤ 7)) (by decide)
  have e : (2 : Int) ^ m % 256 = ((2 ^ m : Nat) : Int) := by
    have e1 : (2 : Int) ^ m = ((2 ^ m : Nat) : Int) := by rw [Int.natCast_pow]; rfl
    rw [e1]
    exact Int.emod_eq_of_lt (Int.natCast_nonneg _) (Int.ofNat_lt.2 hp)
  rw [e, u8_or_nat _ _ x.toNat_lt hp, UInt8.toNat_or, u8_ofNat_toNat _ hp]

set_option maxRecDepth 100000 in
set_option maxHeartbeats 2000000 in
/-- The rows of cells, each once. -/
theorem Rows_any (v : Value) (cs : List Cl) (w : World) (hv : RdC w v cs) (hl : cs.length ≤ 100000) (hz : ∀ c ∈ cs, c.row.size ≤ 1000000) :
    Calls Try.prog 79 #[v] w fun e w' => ∃ v', e = .returned v' ∧ w'.ownsRow w.heap.size 9 1 v' (rowsU cs).length (sc (rowsU cs)) ∧ (∀ r ∈ rowsU cs, r.length ≤ 1000000) ∧ (rowsU cs).length ≤ cs.length ∧ Below w.heap.size w w' := by
  obtain ⟨ao, cap, hvv, hc1, hc2⟩ := hv.shape
  subst hvv
  unfold maxLen at hc2
  go_enter Try.func79, Try.ntmps79
  go_wp2_with fail
  go_loopw [3, 8] (fun o i wr => ∃ (k : Nat) (acc : List (List UInt8)) (p : Option (List UInt8)), k ≤ cs.length ∧ i = .int .i64 k ∧ acc ++ rowsGo p (cs.drop k) = rowsU cs ∧ (k = 0 → p = none) ∧ (∀ d, 0 < k → cs[k - 1]? = some d → p = some d.row.data.toList) ∧ acc.length ≤ k ∧ (∀ r ∈ acc, r.length ≤ 1000000) ∧ wr.ownsRow w.heap.size 9 1 o acc.length (sc acc) ∧ Below w.heap.size w wr)
    (fun _ i _ => cs.length - (intOf i).toNat)
  case atStart => exact ⟨0, [], none, by omega, rfl, rfl, fun _ => rfl, fun d h => by omega, by simp, by simp, World.ownsRow_nil _ _ _ _, Below.refl _ _⟩
  case round =>
    obtain ⟨k, acc, p, hk, rfl, hgo, hp0, hp1, hacc, har, hown, hbel⟩ := hrel
    have HG := hide hgo
    have HAR := hide har
    clear hgo har
    have hszr := hbel.size
    by_cases hlt : k < cs.length
    · obtain ⟨c, hc⟩ : ∃ c, cs[k]? = some c := ⟨_, List.getElem?_eq_getElem hlt⟩
      have hce : cs[k] = c := (List.getElem?_eq_some_iff.1 hc).2
      have hdr := drop_consC hlt
      rw [hce] at hdr
      rw [hdr] at HG
      have HCZ : Hid (c.row.data.toList.length ≤ 1000000) := hide (by rw [← ba_size]; exact hz c (by rw [← hce]; exact List.getElem_mem hlt))
      obtain ⟨b, off, rfl, hbb, hck⟩ := hv.hereD hc
      have HCK := hide hck
      obtain ⟨c0, c1, c2, c3, c4⟩ := hck.below hbel
      have hk1 : (0 : Int) ≤ (k : Int) := by omega
      have hk2 : (k : Int) < (cs.length : Int) := by omega
      have hB := Bk.new wr 53 (ca c)
      have hownA := hown.alloc (.cells (ca c) 53)
      have hbelA : Below w.heap.size w (wr.alloc (.cells (ca c) 53)) := hbel.alloc hszr _
      have hzA : wr.heap.size < (wr.alloc (.cells (ca c) 53)).heap.size := by simp
      have HP1 : Hid (∀ p', p' = some c.row.data.toList → ∀ d, 0 < k + 1 → cs[k + 1 - 1]? = some d → p' = some d.row.data.toList) := hide (fun p' hp' d _ hd => by
        rw [Nat.add_sub_cancel, hc] at hd
        simp only [Option.some.injEq] at hd
        rw [← hd]
        exact hp')
      unfold ca at hB hownA hbelA hzA
      go_wp2_with fail
      by_cases hk0 : k = 0
      · have hkb : ((k : Int) == 0) = true := beq_iff_eq.2 (by omega)
        have hpn := hp0 hk0
        have HM := hide (rowsGo_new (p := p) (c := c) (r := cs.drop (k + 1)) (by rw [hpn]; simp))
        generalize wr.alloc (.cells #[.string c.row, .string c.col, .int .i64 c.time, .bool c.gone, .string c.val] 53) = wA at *
        generalize wr.heap.size = zB at *
        clear hp0 hp1 hpn hk0 hck hc hce hdr hown
        go_quiet (fail)
        obtain ⟨e0, e1, e2, e3, e4⟩ := Bk.facts (w := wA.drewN nq) hB
        have hownq : (wA.drewN nq).ownsRow w.heap.size 9 1 u3 acc.length (sc acc) := hownA
        have hzq : w.heap.size ≤ (wA.drewN nq).heap.size := by show _ ≤ wA.heap.size; omega
        go_wp2_with (at_builtin; go_must (refine wpList_append_one hownq Try.underlying89 Try.infoS9 rfl rfl rfl rfl rfl rfl (by omega) (by decide) hzq ?_); intro v6 w6 ho6 hb6 hg6)
        rw [sc_snocB] at ho6
        go_roundw
        case rel => exact ⟨k + 1, acc ++ [c.row.data.toList], some c.row.data.toList, by omega, by go_num, by rw [← HG.out, HM.out]; simp, fun h => by omega, HP1.out _ rfl, by simp; omega, fun r hr => by rcases List.mem_append.1 hr with h | h; exact HAR.out r h; simp at h; rw [h]; exact HCZ.out, by simpa using ho6, (below_drewN hbelA nq).trans hb6⟩
        case measure => simp [intOf]; omega
      · have hkb : ((k : Int) == 0) = false := beq_eq_false_iff_ne.2 (by omega)
        obtain ⟨j, hkj⟩ : ∃ j, k = j + 1 := ⟨k - 1, by omega⟩
        obtain ⟨d, hd⟩ : ∃ d, cs[j]? = some d := ⟨_, List.getElem?_eq_getElem (by omega)⟩
        have hpd := hp1 d (by omega) (by rw [hkj]; exact hd)
        obtain ⟨b', off', he', _, hdj⟩ := hv.hereD hd
        simp only [Option.some.injEq, Addr.mk.injEq, and_true] at he'
        obtain ⟨rfl, rfl⟩ := he'
        have hd0 := (hdj.below hbelA).c0
        have hw : IntKind.i64.wrap ((k : Int) - 1) = (j : Int) := by rw [IntKind.wrap_i64]; omega
        have hw2 : (k : Int) - 1 = (j : Int) := by omega
        have hj1 : (0 : Int) ≤ (j : Int) := by omega
        have hj2 : (j : Int) < (cs.length : Int) := by omega
        generalize wr.alloc (.cells #[.string c.row, .string c.col, .int .i64 c.time, .bool c.gone, .string c.val] 53) = wA at *
        generalize wr.heap.size = zB at *
        obtain ⟨e0, e1, e2, e3, e4⟩ := Bk.facts hB
        clear hp0 hp1 hk0 hck hc hce hdr hown hd hdj hkj
        by_cases hq : d.row.data.toList = c.row.data.toList
        · have hqb : (c.row.toList == d.row.toList) = true := by rw [ba_list, ba_list, hq]; simp
          have HM := hide (rowsGo_same (p := p) (c := c) (r := cs.drop (k + 1)) (by rw [hpd, hq]))
          have HPD : Hid (p = some c.row.data.toList) := hide (by rw [hpd, hq])
          clear hpd hq
          go_quiet (fail)
          go_wp2_with fail
          go_roundw
          case rel => exact ⟨k + 1, acc, p, by omega, by go_num, by rw [← HG.out, HM.out], fun h => by omega, HP1.out _ HPD.out, by omega, HAR.out, hownA, below_drewN hbelA nq⟩
          case measure => simp [intOf]; omega
        · have hqb : (c.row.toList == d.row.toList) = false := by rw [ba_list, ba_list]; exact beq_eq_false_iff_ne.2 (fun e => hq e.symm)
          have HM := hide (rowsGo_new (p := p) (c := c) (r := cs.drop (k + 1)) (by rw [hpd]; simpa using hq))
          clear hpd hq
          go_quiet (fail)
          have hownq : (wA.drewN nq).ownsRow w.heap.size 9 1 u3 acc.length (sc acc) := hownA
          have hzq : w.heap.size ≤ (wA.drewN nq).heap.size := by show _ ≤ wA.heap.size; omega
          go_wp2_with (at_builtin; go_must (refine wpList_append_one hownq Try.underlying89 Try.infoS9 rfl rfl rfl rfl rfl rfl (by omega) (by decide) hzq ?_); intro v6 w6 ho6 hb6 hg6)
          rw [sc_snocB] at ho6
          go_roundw
          case rel => exact ⟨k + 1, acc ++ [c.row.data.toList], some c.row.data.toList, by omega, by go_num, by rw [← HG.out, HM.out]; simp, fun h => by omega, HP1.out _ rfl, by simp; omega, fun r hr => by rcases List.mem_append.1 hr with h | h; exact HAR.out r h; simp at h; rw [h]; exact HCZ.out, by simpa using ho6, (below_drewN hbelA nq).trans hb6⟩
          case measure => simp [intOf]; omega
    · rw [List.drop_eq_nil_of_le (by omega)] at HG
      have hru : acc = rowsU cs := by have := HG.out; simpa [rowsGo] using this
      clear HG hp0 hp1
      obtain ⟨ro, rcap, hrv⟩ := owns_shape hown
      subst hrv
      go_wp2_with fail
      go_ret
      exact ⟨_, rfl, by rw [← hru]; exact hown, by rw [← hru]; exact HAR.out, by rw [← hru]; omega, hbel⟩

set_option maxRecDepth 100000 in
set_option maxHeartbeats 2000000 in
theorem filterOf_any (v : Value) (cs : List Cl) (w : World) (hv : RdC w v cs) (hl : cs.length ≤ 100000) (hz : ∀ c ∈ cs, c.row.size ≤ 1000000) :
    Calls Try.prog 49 #[v] w fun e w' => ∃ v', e = .returned v' ∧ Rd w' v' (bc (filtB cs)) ∧ Below w.heap.size w w' ∧ New w.heap.size v' := by
  obtain ⟨ao, cap, hvv, hc1, hc2⟩ := hv.shape
  subst hvv
  unfold maxLen at hc2
  go_enter Try.func49, Try.ntmps49
  go_wp2_with fail
  refine (Rows_any _ cs _ hv hl hz).mono ?_
  rintro e wr ⟨vR, rfl, hown, har, hacc, hbel⟩
  have HAR := hide har
  have hszr := hbel.size
  obtain ⟨acc, hru⟩ : ∃ acc, acc = rowsU cs := ⟨_, rfl⟩
  rw [← hru] at hown HAR hacc
  have HFB : Hid (filtB cs = filtGo (max acc.length 1) (List.replicate (max acc.length 1) 0) acc) := hide (by rw [hru]; rfl)
  clear hru har
  obtain ⟨ro, rcap, hrv⟩ := owns_shape hown
  subst hrv
  have hRr := Rd.ofOwns hown
  obtain ⟨ro', rcap', hrv', hre1, hre2, hrcell⟩ := hRr.open
  rw [sc_length] at hrv' hre1 hrcell
  simp only [Value.slice.injEq, true_and] at hrv'
  obtain ⟨rfl, rfl⟩ := hrv'
  unfold maxLen at hre2
  have hmx : ((acc.length : Int) < 1 ∧ max acc.length 1 = 1) ∨ ((1 : Int) ≤ acc.length ∧ max acc.length 1 = acc.length) := by omega
  generalize hW0 : wr = W0 at *
  clear hW0
  rcases hmx with ⟨hm1, hm2⟩ | ⟨hm1, hm2⟩
  · rw [hm2] at HFB
    go_wp2_with (at_make; go_must (refine wpList_make_zero (n := 1) (by go_num) (by go_num) Try.underlying81 Try.info5 rfl rfl rfl rfl (by omega) (Nat.le_refl _) ?_); intro wM hoM hbM hzM)
    have he : acc = [] := List.eq_nil_of_length_eq_zero (by omega)
    subst he
    go_loopw [17] (fun i wq => i = .int .i64 0 ∧ wq = wM) (fun _ _ => 0)
    case atStart => exact ⟨rfl, rfl⟩
    case round =>
      obtain ⟨rfl, rfl⟩ := hrel
      go_wp2_with fail
      go_ret
      refine ⟨_, rfl, ?_, hbel.trans (hbM.mono hszr), (New.owns hoM).mono hszr⟩
      rw [HFB.out]
      exact Rd.ofOwns hoM
  · rw [hm2] at HFB
    have hN : 0 < acc.length := by omega
    go_wp2_with (at_make; go_must (refine wpList_make_zero (n := acc.length) (by go_num) (by go_num) Try.underlying81 Try.info5 rfl rfl rfl rfl (by omega) (Nat.le_refl _) ?_); intro wM hoM hbM hzM)
    go_loopw [17] (fun i wq => ∃ j : Nat, j ≤ acc.length ∧ i = .int .i64 j ∧ wq.ownsRow W0.heap.size 5 1 (.slice (some ⟨W0.heap.size, 0, none⟩) acc.length acc.length) acc.length (bc (filtGo acc.length (List.replicate acc.length 0) (acc.take j))) ∧ Below W0.heap.size W0 wq)
      (fun i _ => acc.length - (intOf i).toNat)
    case atStart => exact ⟨0, by omega, rfl, hoM, hbM⟩
    case round =>
      obtain ⟨j, hj, rfl, hoF, hbF⟩ := hrel
      by_cases hjl : j < acc.length
      · obtain ⟨rb, roff, rfl, hrb, hrc⟩ := hrcell j hjl
        have hlen := filtGo_len acc.length (acc.take j) (List.replicate acc.length 0)
        rw [List.length_replicate] at hlen
        have hsn : filtGo acc.length (List.replicate acc.length 0) (acc.take (j + 1)) = setR acc.length (filtGo acc.length (List.replicate acc.length 0) (acc.take j)) acc[j] 3 := by
          rw [List.take_succ_eq_append_getElem hjl, filtGo, List.foldl_append]
          rfl
        have hck : wr.cell? ⟨rb, roff + j, none⟩ = some (.string ⟨acc[j].toArray⟩) := (hbF.cell (by exact hrb)).trans (hrc j _ (by simp [sc, hjl]))
        have hrl := HAR.out acc[j] (List.getElem_mem hjl)
        generalize acc[j] = r at *
        generalize filtGo acc.length (List.replicate acc.length 0) (acc.take j) = L at *
        have HS := hide hsn
        have HL := hide hlen
        clear hsn hlen hrc hrcell hRr hown hoM hbM
        have hrs : (⟨r.toArray⟩ : ByteArray).size ≤ 9223372036854775807 := by simp [ByteArray.size]; omega
        have hpl := placesOf_any (some ⟨W0.heap.size, 0, none⟩) acc.length acc.length ⟨r.toArray⟩ wr hN (by omega) hrs
        simp only at hpl
        have HPL := hide hpl
        clear hpl
        go_wp2_with fail
        refine HPL.out.mono ?_
        rintro e w1 ⟨rfl, hb1⟩
        have hoF1 := owns_below hoF hb1
        have hbF1 : Below W0.heap.size W0 w1 := hbF.trans (hb1.mono hbF.size)
        clear hoF hbF hck hb1
        go_wp2_with fail
        go_loopw [24] (fun i wq => ∃ k : Nat, k ≤ 3 ∧ i = .int .i64 k ∧ wq.ownsRow W0.heap.size 5 1 (.slice (some ⟨W0.heap.size, 0, none⟩) acc.length acc.length) acc.length (bc (setR acc.length L r k)) ∧ Below W0.heap.size W0 wq)
          (fun i _ => 3 - (intOf i).toNat)
        case atStart => exact ⟨0, by omega, rfl, hoF1, hbF1⟩
        case round =>
          obtain ⟨k, hk3, rfl, hoK, hbK⟩ := hrel
          by_cases hk3' : k < 3
          · have hp := plc_lt r k hN
            have hlK : (setR acc.length L r k).length = acc.length := by rw [setR_len]; exact HL.out
            obtain ⟨x, hx⟩ : ∃ x, (setR acc.length L r k)[plc r acc.length k / 8]? = some x := ⟨_, List.getElem?_eq_getElem (by omega)⟩
            have hst : setR acc.length L r (k + 1) = (setR acc.length L r k).set (plc r acc.length k / 8) (x ||| UInt8.ofNat (2 ^ (plc r acc.length k % 8))) := by
              rw [setR, setB, List.getD_eq_getElem?_getD, hx]
              rfl
            have hcx := hoK.cells (g := W0.heap.size) rfl (plc r acc.length k / 8) (.int .u8 (x.toNat : Int)) (by simp [bc, hx])
            rw [Addr.add_lit, Nat.zero_add] at hcx
            have hfz := hoK.frozenAt (plc r acc.length k / 8)
            have hnew := (hoK.stored (plc r acc.length k / 8) (.int .u8 ((x ||| UInt8.ofNat (2 ^ (plc r acc.length k % 8))).toNat : Int))).1
            have hxl := x.toNat_lt
            have hr8 : plc r acc.length k % 8 < 8 := Nat.mod_lt _ (by decide)
            have hd8 : plc r acc.length k / 8 < acc.length := by omega
            have HST := hide hst
            have HNEW := hide hnew
            have hpk : k = 0 ∨ k = 1 ∨ k = 2 := by omega
            clear hst hnew hx
            generalize hq : plc r acc.length k = q at *
            rcases hpk with rfl | rfl | rfl
            all_goals
              rw [hq]
              have hqd : (q : Int) / 8 = ((q / 8 : Nat) : Int) := by omega
              have hqm : (q : Int) % 8 = ((q % 8 : Nat) : Int) := by omega
              clear hq
              generalize q / 8 = d at *
              generalize q % 8 = m at *
              have hzF := (hoK.lt W0.heap.size rfl).2
              go_wp2_with (first | refine wpList_index_run rfl rfl rfl rfl (index0 _ _ _) ?_ | refine wpList_index_run rfl rfl rfl rfl (index1 _ _ _) ?_ | refine wpList_index_run rfl rfl rfl rfl (index2 _ _ _) ?_)
              have HOR := hide (or_bit x m hr8)
              go_region
              all_goals
                go_wp2_with fail
                go_roundw
                case rel =>
                  rw [HOR.out]
                  first | exact ⟨0 + 1, (by omega), (by go_num), (by rw [HST.out, ← bc_set]; exact HNEW.out), (hbK.setCell (p := ⟨W0.heap.size, d, none⟩) (Nat.le_refl _) _).drew⟩ | exact ⟨1 + 1, (by omega), (by go_num), (by rw [HST.out, ← bc_set]; exact HNEW.out), (hbK.setCell (p := ⟨W0.heap.size, d, none⟩) (Nat.le_refl _) _).drew⟩ | exact ⟨2 + 1, (by omega), (by go_num), (by rw [HST.out, ← bc_set]; exact HNEW.out), (hbK.setCell (p := ⟨W0.heap.size, d, none⟩) (Nat.le_refl _) _).drew⟩
                case measure => decide
          · obtain rfl : k = 3 := by omega
            go_wp2_with fail
            go_roundw
            case rel => exact ⟨j + 1, by omega, by go_num, by rw [HS.out]; exact hoK, hbK⟩
            case measure => simp [intOf]; omega
      · rw [List.take_of_length_le (by omega)] at hoF
        go_wp2_with fail
        go_ret
        refine ⟨_, rfl, ?_, hbel.trans (hbF.mono hszr), (New.owns hoF).mono hszr⟩
        rw [HFB.out]
        exact Rd.ofOwns hoF

end Go.Proofs.Ytlebbkbbmgmmjac
