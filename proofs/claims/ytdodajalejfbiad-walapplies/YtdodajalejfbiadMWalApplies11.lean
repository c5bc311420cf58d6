/-
  Texts joined: CellW8, CellW9, WalW1, WalW6, WalW7, WalW2, CellR6.
-/
import Derived.Test.YtdodajalejfbiadMWalApplies10
/-
  The walks over cell.readCell and cell.Read.
-/
namespace Go.Proofs.Ytdodajalejfbiad
open Go.RowKit

/-- Text, whatever is there: the text, whether one is, and where the reader stands then. -/
theorem Text_ex (t : TypeId) (R : Nat) (v : Value) (bs : List UInt8) (k : Nat) (w : World) (hrd : Rd w v (bc bs)) (hblk : ∀ a l c, v = .slice (some a) l c → 0 < (bc bs).length → a.block ≠ R) (hr : RdrT w t R v k) (hk : k ≤ bs.length) :
    Calls Try.prog 119 #[.pointer (some ⟨R, 0, none⟩)] w fun e w' => ∃ (s : List UInt8) (b : Bool) (m : Nat), e = .returned (.tuple #[.string ⟨s.toArray⟩, .bool b]) ∧ k + m ≤ bs.length ∧ RdrT w' t R v (k + m : Nat) ∧ w.grownBy w' (some R) ∧ (b = true → textAt (bs.drop k) = some (s, m)) ∧ (b = false → textAt (bs.drop k) = none) := by
  cases h : textAt (bs.drop k) with
  | none => exact (Text_none t R v bs k w hrd hblk hr hk h).mono fun e w' ⟨h1, h2, h3⟩ => ⟨[], false, 0, h1, by omega, h2, h3, (fun h => by cases h), fun _ => rfl⟩
  | some p =>
    obtain ⟨s, m⟩ := p
    have hl := textAt_len h
    rw [List.length_drop] at hl
    exact (Text_some t R v bs s k m w hrd hblk hr hk h).mono fun e w' ⟨h1, h2, h3⟩ => ⟨s, true, m, h1, by omega, h2, h3, (fun _ => rfl), fun h => by cases h⟩

theorem Num_ex (t : TypeId) (R : Nat) (v : Value) (bs : List UInt8) (k : Nat) (w : World) (hrd : Rd w v (bc bs)) (hr : RdrT w t R v k) (hk : k ≤ bs.length) :
    Calls Try.prog 68 #[.pointer (some ⟨R, 0, none⟩)] w fun e w' => ∃ (n : Nat) (b : Bool) (m : Nat), e = .returned (.tuple #[.int .i64 n, .bool b]) ∧ n ≤ 1000000000 ∧ k + m ≤ bs.length ∧ RdrT w' t R v (k + m : Nat) ∧ w.grownBy w' (some R) ∧ (b = true → numAt (bs.drop k) = some (n, m)) ∧ (b = false → numAt (bs.drop k) = none) := by
  refine (Num_any t R v bs k w hrd hr hk).mono ?_
  rintro e w' ⟨h1, h2, h3⟩
  cases h : numAt (bs.drop k) with
  | none =>
    rw [h] at h1 h2
    exact ⟨0, false, 0, h1, by omega, by omega, h2, h3, (fun h => by cases h), fun _ => rfl⟩
  | some p =>
    obtain ⟨n, m⟩ := p
    rw [h] at h1 h2
    have hl := numAt_len h
    rw [List.length_drop] at hl
    exact ⟨n, true, m, h1, hl.2.2, by omega, h2, h3, (fun _ => rfl), fun h => by cases h⟩

theorem RdrT.other {w : World} {t : TypeId} {R : Nat} {v : Value} {k : Int} (h : RdrT w t R v k) {p : Addr} (hp : p.block ≠ R) (u : Value) : RdrT (w.setCell p u) t R v k := by
  unfold RdrT
  rw [heap_setCell_other w p R u (fun e => hp e.symm)]
  exact h

theorem gb_setNew {a w : World} {o : Option Nat} (h : a.grownBy w o) {p : Addr} (hp : a.heap.size ≤ p.block) (u : Value) : a.grownBy (w.setCell p u) o :=
  ⟨h.os, h.tape, h.output, by rw [World.setCell]; simp [h.size], fun k hk hn => (heap_setCell_other w p k u (by omega)).trans (h.block k hk hn)⟩

/-- What readCell answers. -/
def rawPost (w w' : World) (e : Ending) (t : TypeId) (R : Nat) (v : Value) (k len : Nat) : Option (Cl × Nat) → Prop
  | none => e = .returned (.tuple #[cA zeroC, .bool false]) ∧ ∃ k' : Nat, k' ≤ len ∧ RdrT w' t R v k' ∧ w.grownBy w' (some R)
  | some (c, m) => e = .returned (.tuple #[cA c, .bool true]) ∧ RdrT w' t R v (k + m : Nat) ∧ w.grownBy w' (some R)

set_option maxRecDepth 100000 in
set_option maxHeartbeats 1000000 in
theorem readCell_any (t : TypeId) (R : Nat) (v : Value) (bs : List UInt8) (k : Nat) (w : World) (hrd : Rd w v (bc bs)) (hblk : ∀ a l c, v = .slice (some a) l c → 0 < (bc bs).length → a.block ≠ R) (hr : RdrT w t R v k) (hk : k ≤ bs.length) :
    Calls Try.prog 101 #[.pointer (some ⟨R, 0, none⟩)] w fun e w' => rawPost w w' e t R v k bs.length (rawAt (bs.drop k)) := by
  have hRlt := hr.facts.2.2.2.2
  have hrd0 := hrd.alloc (.cells #[.string ⟨#[]⟩, .string ⟨#[]⟩, .int .i64 0, .bool false, .string ⟨#[]⟩] 91)
  have hr0 : RdrT (w.alloc (.cells #[.string ⟨#[]⟩, .string ⟨#[]⟩, .int .i64 0, .bool false, .string ⟨#[]⟩] 91)) t R v k := by
    unfold RdrT
    rw [Below.heap_alloc _ _ _ hRlt]
    exact hr
  have hB0 : Bk (w.alloc (.cells #[.string ⟨#[]⟩, .string ⟨#[]⟩, .int .i64 0, .bool false, .string ⟨#[]⟩] 91)) w.heap.size 91 (ca zeroC) := Bk.new _ _ _
  have hg0 : w.grownBy (w.alloc (.cells #[.string ⟨#[]⟩, .string ⟨#[]⟩, .int .i64 0, .bool false, .string ⟨#[]⟩] 91)) (some R) := gb_alloc (gb_refl _ _) _
  go_enter Try.func101, Try.ntmps101
  go_wp2_with fail
  refine (Text_ex t R v bs k _ hrd0 hblk hr0 hk).mono ?_
  rintro e w1 ⟨s1, b1, m1, rfl, hk1, hr1, hg1, hT1, hF1⟩
  have hrd1 := hrd0.grownT hg1 hblk
  have hB1 := hB0.grown hg1 (by simp; omega)
  have hw1 := grownT_trans hg0 hg1
  clear hrd0 hr0 hB0 hg0 hg1
  go_wp2_with fail
  refine (Text_ex t R v bs (k + m1) _ hrd1 hblk hr1 hk1).mono ?_
  rintro e w2 ⟨s2, b2, m2, rfl, hk2, hr2, hg2, hT2, hF2⟩
  have hrd2 := hrd1.grownT hg2 hblk
  have hB2 := hB1.grown hg2 (by simp; omega)
  have hw2 := grownT_trans hw1 hg2
  clear hrd1 hr1 hB1 hw1 hg2
  go_wp2_with fail
  refine (Num_ex t R v bs (k + m1 + m2) _ hrd2 hr2 hk2).mono ?_
  rintro e w3 ⟨n3, b3, m3, rfl, hn3, hk3, hr3, hg3, hT3, hF3⟩
  have hrd3 := hrd2.grownT hg3 hblk
  have hB3 := hB2.grown hg3 (by simp; omega)
  have hw3 := grownT_trans hw2 hg3
  clear hrd2 hr2 hB2 hw2 hg3
  go_wp2_with fail
  refine (Num_ex t R v bs (k + m1 + m2 + m3) _ hrd3 hr3 hk3).mono ?_
  rintro e w4 ⟨n4, b4, m4, rfl, hn4, hk4, hr4, hg4, hT4, hF4⟩
  have hrd4 := hrd3.grownT hg4 hblk
  have hB4 := hB3.grown hg4 (by simp; omega)
  have hw4 := grownT_trans hw3 hg4
  clear hrd3 hr3 hB3 hw3 hg4
  go_wp2_with fail
  refine (Text_ex t R v bs (k + m1 + m2 + m3 + m4) _ hrd4 hblk hr4 hk4).mono ?_
  rintro e w5 ⟨s5, b5, m5, rfl, hk5, hr5, hg5, hT5, hF5⟩
  have hB5 := hB4.grown hg5 (by simp; omega)
  have hw5 := grownT_trans hw4 hg5
  clear hrd4 hr4 hB4 hw4 hg5 hrd hr
  simp only [← List.drop_drop] at hT2 hF2 hT3 hF3 hT4 hF4 hT5 hF5
  generalize hds : bs.drop k = ds at *
  have hT3' : b3 = true → numAt (ds.drop (m1 + m2)) = some (n3, m3) := fun h => by have := hT3 h; simpa only [List.drop_drop] using this
  have hF3' : b3 = false → numAt (ds.drop (m1 + m2)) = none := fun h => by have := hF3 h; simpa only [List.drop_drop] using this
  have hT4' : b4 = true → numAt (ds.drop (m1 + m2 + m3)) = some (n4, m4) := fun h => by have := hT4 h; simpa only [List.drop_drop] using this
  have hF4' : b4 = false → numAt (ds.drop (m1 + m2 + m3)) = none := fun h => by have := hF4 h; simpa only [List.drop_drop] using this
  have hT5' : b5 = true → textAt (ds.drop (m1 + m2 + m3 + m4)) = some (s5, m5) := fun h => by have := hT5 h; simpa only [List.drop_drop] using this
  have hF5' : b5 = false → textAt (ds.drop (m1 + m2 + m3 + m4)) = none := fun h => by have := hF5 h; simpa only [List.drop_drop] using this
  have HDS := hide hds
  clear hT3 hF3 hT4 hF4 hT5 hF5 hds
  have hc0 := hB5.cell 0
  have hc1 := hB5.cell 1
  have hc2 := hB5.cell 2
  have hc3 := hB5.cell 3
  have hc4 := hB5.cell 4
  have hfz := hB5.thaw
  obtain ⟨f0, f1, f2, f3, f4⟩ := hfz
  have hsz5 := hB5.lt
  simp [ca, zeroC] at hc0 hc1 hc2 hc3 hc4
  have hall : (rawAt ds = none ∧ (b1 = false ∨ b1 = true ∧ b2 = false ∨ b1 = true ∧ b2 = true ∧ b3 = false ∨ b1 = true ∧ b2 = true ∧ b3 = true ∧ b4 = false ∨ b1 = true ∧ b2 = true ∧ b3 = true ∧ b4 = true ∧ (1 : Int) < n4 ∨ b1 = true ∧ b2 = true ∧ b3 = true ∧ b4 = true ∧ (n4 : Int) ≤ 1 ∧ b5 = false)) ∨
      (b1 = true ∧ b2 = true ∧ b3 = true ∧ b4 = true ∧ (n4 : Int) ≤ 1 ∧ b5 = true ∧ rawAt ds = some (⟨⟨s1.toArray⟩, ⟨s2.toArray⟩, (n3 : Int), n4 == 1, ⟨s5.toArray⟩⟩, m1 + m2 + m3 + m4 + m5)) := by
    cases b1
    · exact .inl ⟨rawAt_1 (hF1 rfl), .inl rfl⟩
    · cases b2
      · exact .inl ⟨rawAt_2 (hT1 rfl) (hF2 rfl), by simp⟩
      · cases b3
        · exact .inl ⟨rawAt_3 (hT1 rfl) (hT2 rfl) (hF3' rfl), by simp⟩
        · cases b4
          · exact .inl ⟨rawAt_4 (hT1 rfl) (hT2 rfl) (hT3' rfl) (hF4' rfl), by simp⟩
          · by_cases h1 : 1 < n4
            · exact .inl ⟨rawAt_5 (hT1 rfl) (hT2 rfl) (hT3' rfl) (hT4' rfl) h1, by simp; omega⟩
            · cases b5
              · exact .inl ⟨rawAt_6 (hT1 rfl) (hT2 rfl) (hT3' rfl) (hT4' rfl) (hF5' rfl), by simp; omega⟩
              · exact .inr ⟨rfl, rfl, rfl, rfl, by omega, rfl, rawAt_ok (hT1 rfl) (hT2 rfl) (hT3' rfl) (hT4' rfl) h1 (hT5' rfl)⟩
  clear hT1 hF1 hT2 hF2 hT3' hF3' hT4' hF4' hT5' hF5'
  rcases hall with ⟨hE, h | ⟨h1, h⟩ | ⟨h1, h2, h⟩ | ⟨h1, h2, h3, h⟩ | ⟨h1, h2, h3, h4, h⟩ | ⟨h1, h2, h3, h4, h5, h⟩⟩ | ⟨h1, h2, h3, h4, h5, h6, hE⟩
  iterate 6
    · have HE := hide hE
      clear hE
      subst_vars
      go_wp2_with fail
      refine bodyPost_ret (v := .tuple #[cA zeroC, .bool false]) (by simp [results, Try.results101, go_sem, cA, zeroC, hc0, hc1, hc2, hc3, hc4]) rfl ?_
      rw [HE.out]
      refine ⟨rfl, k + m1 + m2 + m3 + m4 + m5, by omega, ?_, ?_⟩
      · exact ((((hr5.other (by simp; omega) _).other (by simp; omega) _).other (by simp; omega) _).other (by simp; omega) _).other (by simp; omega) _
      · exact gb_setNew (gb_setNew (gb_setNew (gb_setNew (gb_setNew hw5 (Nat.le_refl _) _) (Nat.le_refl _) _) (Nat.le_refl _) _) (Nat.le_refl _) _) (Nat.le_refl _) _
  · have HE := hide hE
    clear hE
    subst_vars
    go_wp2_with fail
    refine bodyPost_ret (v := .tuple #[cA ⟨⟨s1.toArray⟩, ⟨s2.toArray⟩, (n3 : Int), n4 == 1, ⟨s5.toArray⟩⟩, .bool true]) (by simp [results, Try.results101, go_sem, cA, hc0, hc1, hc2, hc3, hc4]; rw [Bool.eq_iff_iff]; simp; omega) rfl ?_
    rw [HE.out]
    have hr6 : RdrT w5 t R v (k + (m1 + m2 + m3 + m4 + m5) : Nat) := by
      rw [show k + (m1 + m2 + m3 + m4 + m5) = k + m1 + m2 + m3 + m4 + m5 by omega]
      exact hr5
    refine ⟨rfl, ?_, ?_⟩
    · exact ((((hr6.other (by simp; omega) _).other (by simp; omega) _).other (by simp; omega) _).other (by simp; omega) _).other (by simp; omega) _
    · exact gb_setNew (gb_setNew (gb_setNew (gb_setNew (gb_setNew hw5 (Nat.le_refl _) _) (Nat.le_refl _) _) (Nat.le_refl _) _) (Nat.le_refl _) _) (Nat.le_refl _) _

end Go.Proofs.Ytdodajalejfbiad

/-
  The walk over cell.Read.
-/
namespace Go.Proofs.Ytdodajalejfbiad
open Go.RowKit

theorem lenV_ownsC {w : World} {base : Nat} {e : TypeId} {v : Value} {n : Nat} {xs : List Value} (h : w.ownsRow base e 5 v n xs) : lenV v = n := lenV_owns h

set_option maxRecDepth 100000 in
set_option maxHeartbeats 1000000 in
theorem CRead_any (v : Value) (bs : List UInt8) (w : World) (hrd : Rd w v (bc bs)) :
    Calls Try.prog 69 #[v] w fun e w' => ∃ v', e = .returned (.tuple #[v', fltC (readCR bs).2]) ∧ RdC w' v' (readCR bs).1 ∧ Below w.heap.size w w' ∧ New w.heap.size v' := by
  obtain ⟨ao, cap, hv, hc1, hc2⟩ := hrd.shape
  rw [bc_length] at hc1 hv
  subst hv
  unfold maxLen at hc2
  by_cases hbig : 60000 < bs.length
  · have HE := hide (readCR_big hbig)
    go_enter Try.func69, Try.ntmps69
    go_wp2_with fail
    exact bodyPost_ret (v := .tuple #[.slice none 0 0, fltC (8, 0)]) (by simp [results, Try.results69, go_sem, fltC]) rfl ⟨.slice none 0 0, by rw [HE.out], by rw [HE.out]; exact RdC.nil _, by go_grown, New.nil _⟩
  · have HE := hide (readCR_go hbig)
    go_enter Try.func69, Try.ntmps69
    go_wp2_with fail
    refine (ReaderOf_any ao bs.length cap _).mono ?_
    rintro e w1 ⟨rfl, hb1, hz1⟩
    have hF1 : Below (w.heap.size + 1) (w.alloc (.cells #[.int .i64 0, .int .i64 0] 28)) w1 := hb1.mono (by simp)
    have hz2 : w.heap.size + 1 < w1.heap.size := by rw [hz1]; simp
    have hblk : ∀ a l c, Value.slice ao bs.length cap = .slice (some a) l c → 0 < (bc bs).length → a.block < w.heap.size := by
      intro a l c e hp
      simp only [Value.slice.injEq] at e
      obtain ⟨rfl, _, _⟩ := e
      obtain ⟨b, off, cap', hv, _, _, hb, _⟩ := hrd.pos hp
      simp only [Value.slice.injEq, Option.some.injEq] at hv
      rw [hv.1]
      exact hb
    have HB := hide hblk
    clear hblk hb1 hz1
    go_wp2_with fail
    have hR0 : RdrT (w1.alloc (.cells #[.slice ao bs.length cap, .int .i64 0] 104)) 104 w1.heap.size (.slice ao bs.length cap) (0 : Nat) := heap_alloc_new _ _
    have hF2 : Below (w.heap.size + 1) (w.alloc (.cells #[.int .i64 0, .int .i64 0] 28)) (w1.alloc (.cells #[.slice ao bs.length cap, .int .i64 0] 104)) := hF1.alloc (by omega) _
    have hz3 : w1.heap.size < (w1.alloc (.cells #[.slice ao bs.length cap, .int .i64 0] 104)).heap.size := by simp
    generalize w1.alloc (.cells #[.slice ao bs.length cap, .int .i64 0] 104) = wA at *
    generalize w1.heap.size = R at *
    clear hF1
    go_loopw [5] (fun o wr => ∃ (k f : Nat) (acc : List Cl), k ≤ bs.length ∧ rdCells (f + 1) (bs.drop k) acc = rdCells (bs.length + 1) bs [] ∧ bs.length ≤ k + f ∧ acc.length ≤ k ∧ RdrT wr 104 R (.slice ao bs.length cap) k ∧ wr.ownsRow (R + 1) 91 5 o acc.length (cc acc) ∧ Below (w.heap.size + 1) (w.alloc (.cells #[.int .i64 0, .int .i64 0] 28)) wr)
      (fun o _ => bs.length + 1 - lenV o)
    case atStart => exact ⟨0, bs.length, [], by omega, rfl, by omega, by simp, hR0, World.ownsRow_nil _ _ _ _, hF2⟩
    case round =>
      obtain ⟨k, f, acc, hk, hgo, hf, hacc, hr, hown, hbel⟩ := hrel
      have HG := hide hgo
      clear hgo hR0 hF2 hz3
      have hbf := below_first hbel
      have hrd1 := hrd.below hbf
      have hszr := hr.facts.2.2.2.2
      have hlen := lenV_owns hown
      by_cases hkl : k = bs.length
      · subst hkl
        rw [List.drop_length] at HG
        go_wp2_with fail
        refine (Done_any _ _ _ _ _ _ _ hr).mono ?_
        rintro e w2 ⟨rfl, q, rfl⟩
        obtain ⟨ao2, cap2, hv2⟩ := ownsC_shape hown
        subst hv2
        go_wp2_with fail
        have hrc : RdC (wr.drewN q) (.slice ao2 acc.length cap2) acc := RdC.ofOwns hown
        refine (CCheck_any _ acc _ hrc).mono ?_
        rintro e w3 ⟨rfl, hb3⟩
        have hbel3 : Below (w.heap.size + 1) (w.alloc (.cells #[.int .i64 0, .int .i64 0] 28)) w3 := (below_drewN hbel q).trans (hb3.mono (by show _ ≤ wr.heap.size; omega))
        have hown3 : w3.ownsRow (R + 1) 91 5 (.slice ao2 acc.length cap2) acc.length (cc acc) := owns_below (w := wr.drewN q) hown hb3
        obtain ⟨gf0, gf1, gr0, gr1, gsz⟩ := two_later hbel3
        have hbf3 := below_first hbel3
        clear hown hbel hbf hb3
        by_cases hc : (checkC acc).1 = 0
        · have hcz := checkC_zero hc
          have HM := hide (@rdCells_end f acc hc)
          rw [hcz]
          unfold fltC
          clear hcz hc
          go_wp2_with fail
          exact bodyPost_ret (v := .tuple #[.slice ao2 acc.length cap2, fltC (0, 0)]) (by simp [results, Try.results69, go_sem, fltC, gf0, gf1, gsz]) rfl ⟨_, by rw [HE.out, ← HG.out, HM.out], by rw [HE.out, ← HG.out, HM.out]; exact RdC.ofOwns ((ownsRow_setCell_below (ownsRow_setCell_below hown3 (by simp only; omega) _) (by simp only; omega) _).alloc _), by go_grown, (New.owns hown3).mono (by omega)⟩
        · have HM := hide (@rdCells_fault f acc hc)
          have hcb : ((checkC acc).1 == 0) = false := beq_eq_false_iff_ne.2 hc
          have hcb2 : ((checkC acc).1 != 0) = true := by simp [hc]
          clear hc
          generalize checkC acc = r at *
          obtain ⟨x, y⟩ := r
          simp only at hcb hcb2
          unfold fltC
          go_wp2_with fail
          go_region
          all_goals
            go_wp2_with fail
            exact bodyPost_ret (v := .tuple #[.slice none 0 0, fltC (x, y)]) (by simp [results, Try.results69, go_sem, fltC, gf0, gf1, gsz]) rfl ⟨_, by rw [HE.out, ← HG.out, HM.out], by rw [HE.out, ← HG.out, HM.out]; exact RdC.nil _, by go_grown, New.nil _⟩
      · have hkb : ((k : Int) == bs.length) = false := beq_eq_false_iff_ne.2 (by omega)
        have hne : bs.drop k ≠ [] := by intro h; have := congrArg List.length h; simp at this; omega
        have HN := hide hne
        clear hne
        go_wp2_with fail
        refine (Done_any _ _ _ _ _ _ _ hr).mono ?_
        rintro e w2 ⟨rfl, q, rfl⟩
        go_wp2_with fail
        refine (readCell_any _ R _ bs k (wr.drewN q) (hrd1.drewN q) (fun a l c e hp => by have := HB.out a l c e hp; omega) hr hk).mono ?_
        rintro e w3 hp
        have hwq : ∀ {x : World}, (wr.drewN q).grownBy x (some R) → x.ownsRow (R + 1) 91 5 u5 acc.length (cc acc) ∧ Below (w.heap.size + 1) (w.alloc (.cells #[.int .i64 0, .int .i64 0] 28)) x ∧ R < x.heap.size := fun h => ⟨owns_grown (w := wr.drewN q) hown h (by omega), (below_drewN hbel q).grown h (by show _ ≤ wr.heap.size; omega) (fun j hj => by simp at hj; omega), by have := h.size; have e : (wr.drewN q).heap.size = wr.heap.size := rfl; omega⟩
        cases hn : rawAt (bs.drop k) with
        | none =>
          rw [hn] at hp
          obtain ⟨rfl, k', _, hr3, hg3⟩ := hp
          obtain ⟨hown3, hbel3, hsz3⟩ := hwq hg3
          have HM := hide (@rdCells_bad f (bs.drop k) acc HN.out (cellAt_no hn))
          clear hn hwq hg3 hown hbel hbf
          obtain ⟨ao2, cap2, hv2⟩ := ownsC_shape hown3
          subst hv2
          obtain ⟨gf0, gf1, gr0, gr1, gsz⟩ := two_later hbel3
          have hbf3 := below_first hbel3
          unfold cA
          go_wp2_with fail
          exact bodyPost_ret (v := .tuple #[.slice none 0 0, fltC (5, acc.length)]) (by simp [results, Try.results69, go_sem, fltC, gf0, gf1, gsz]) rfl ⟨_, by rw [HE.out, ← HG.out, HM.out], by rw [HE.out, ← HG.out, HM.out]; exact RdC.nil _, by go_grown, New.nil _⟩
        | some p =>
          obtain ⟨c, m⟩ := p
          rw [hn] at hp
          obtain ⟨rfl, hr3, hg3⟩ := hp
          obtain ⟨hown3, hbel3, hsz3⟩ := hwq hg3
          have hml := rawAt_len hn
          rw [List.length_drop] at hml
          clear hwq hg3 hown hbel hbf
          obtain ⟨ao2, cap2, hv2⟩ := ownsC_shape hown3
          subst hv2
          unfold cA
          have hC4 : Bk (w3.alloc (.cells #[.string c.row, .string c.col, .int .i64 c.time, .bool c.gone, .string c.val] 91)) w3.heap.size 91 (ca c) := Bk.new _ _ _
          have hr4 : RdrT (w3.alloc (.cells #[.string c.row, .string c.col, .int .i64 c.time, .bool c.gone, .string c.val] 91)) 104 R (.slice ao bs.length cap) (k + m : Nat) := by
            unfold RdrT
            rw [Below.heap_alloc _ _ _ hsz3]
            exact hr3
          have hbel4 : Below (w.heap.size + 1) (w.alloc (.cells #[.int .i64 0, .int .i64 0] 28)) (w3.alloc (.cells #[.string c.row, .string c.col, .int .i64 c.time, .bool c.gone, .string c.val] 91)) := hbel3.alloc (by omega) _
          have hown4 := hown3.alloc (.cells #[.string c.row, .string c.col, .int .i64 c.time, .bool c.gone, .string c.val] 91)
          have hz4 : w3.heap.size < (w3.alloc (.cells #[.string c.row, .string c.col, .int .i64 c.time, .bool c.gone, .string c.val] 91)).heap.size := by simp
          go_wp2_with fail
          refine (ownCode_any c _).mono ?_
          rintro e w5 ⟨rfl, hb5⟩
          have hC5 := hC4.below hb5 hz4
          have hr5 : RdrT w5 104 R (.slice ao bs.length cap) (k + m : Nat) := by
            unfold RdrT
            rw [hb5.block _ (by omega)]
            exact hr4
          have hbel5 : Below (w.heap.size + 1) (w.alloc (.cells #[.int .i64 0, .int .i64 0] 28)) w5 := hbel4.trans (hb5.mono (by omega))
          have hown5 := owns_below hown4 hb5
          have hz5 : w3.heap.size < w5.heap.size := hC5.lt
          clear hC4 hr4 hbel4 hown4 hz4 hb5 hown3 hbel3 hr3
          obtain ⟨gf0, gf1, gr0, gr1, gsz⟩ := two_later hbel5
          have hbf5 := below_first hbel5
          obtain ⟨c0, c1, c2, c3, c4⟩ := hC5.facts
          by_cases hc : codeC c = 0
          · have HM := hide (@rdCells_step f (bs.drop k) acc c m HN.out (cellAt_ok hn hc))
            rw [hc]
            clear hn hc
            go_wp2_with (at_builtin; go_must (refine wpList_append_oneC (c := c) hown5 Try.underlying30 Try.info91 rfl rfl rfl rfl rfl (by omega) (by decide) (by omega) ?_); intro v6 w6 ho6 hb6 hg6)
            have hlen6 := lenV_owns ho6
            have hr6 : RdrT w6 104 R (.slice ao bs.length cap) (k + m : Nat) := by
              unfold RdrT
              rw [hb6.block _ (by omega)]
              exact hr5
            go_roundw
            case rel =>
              obtain ⟨f', rfl⟩ : ∃ f', f = f' + 1 := ⟨f - 1, by omega⟩
              refine ⟨k + m, f', acc ++ [c], by omega, ?_, by omega, by simp; omega, hr6, by simpa using ho6, hbel5.trans (hb6.mono (by omega))⟩
              rw [← HG.out, HM.out, List.drop_drop]
            case measure => rw [hlen6, hlen]; omega
          · have HM := hide (@rdCells_bad f (bs.drop k) acc HN.out (cellAt_bad hn hc))
            have hcb : (codeC c != 0) = true := by simp [hc]
            clear hn hc
            go_wp2_with fail
            exact bodyPost_ret (v := .tuple #[.slice none 0 0, fltC (5, acc.length)]) (by simp [results, Try.results69, go_sem, fltC, gf0, gf1]) rfl ⟨_, by rw [HE.out, ← HG.out, HM.out], by rw [HE.out, ← HG.out, HM.out]; exact RdC.nil _, by go_grown, New.nil _⟩

end Go.Proofs.Ytdodajalejfbiad

/-
  The walks over wal.ownFault, wal.follows and wal.Write.
-/
namespace Go.Proofs.Ytdodajalejfbiad
open Go.RowKit

/-- A note as a value. -/
def ntA (s : Int) (v : Value) : Value := .agg #[.int .i64 s, v]

set_option maxRecDepth 100000 in
set_option maxHeartbeats 1000000 in
theorem ownFault_any (s : Int) (v : Value) (cs : List Cl) (w : World) (hv : RdC w v cs) :
    Calls Try.prog 64 #[ntA s v] w fun e w' => e = .returned (fltC (noteF s cs)) ∧ Below w.heap.size w w' := by
  obtain ⟨ao, cap, hvv, hc1, hc2⟩ := hv.shape
  subst hvv
  unfold maxLen at hc2
  unfold ntA
  go_enter Try.func64, Try.ntmps64
  by_cases h1 : s < 1
  · have HE := hide (@noteF_range s cs (by omega))
    go_wp2_with fail
    exact bodyPost_ret (v := fltC (3, -1)) (by simp [results, Try.results64, go_sem, fltC]) rfl ⟨by rw [HE.out], by go_grown⟩
  by_cases h2 : 1000000000 < s
  · have HE := hide (@noteF_range s cs (by omega))
    go_wp2_with fail
    exact bodyPost_ret (v := fltC (3, -1)) (by simp [results, Try.results64, go_sem, fltC]) rfl ⟨by rw [HE.out], by go_grown⟩
  by_cases h3 : cs.length = 0
  · have HE := hide (@noteF_many s cs (by omega) (by omega))
    go_wp2_with fail
    exact bodyPost_ret (v := fltC (2, -1)) (by simp [results, Try.results64, go_sem, fltC]) rfl ⟨by rw [HE.out], by go_grown⟩
  by_cases h4 : 20 < cs.length
  · have HE := hide (@noteF_many s cs (by omega) (by omega))
    go_wp2_with fail
    exact bodyPost_ret (v := fltC (2, -1)) (by simp [results, Try.results64, go_sem, fltC]) rfl ⟨by rw [HE.out], by go_grown⟩
  have HE := hide (@noteF_cells s cs (by omega) (by omega))
  have h3b : ((cs.length : Int) == 0) = false := beq_eq_false_iff_ne.2 (by omega)
  have h4b : decide (20 < (cs.length : Int)) = false := decide_eq_false (by omega)
  go_wp2_with fail
  have hR0 : Bk ((w.alloc (.cells #[.int .i64 s, .slice ao cs.length cap] 41)).alloc (.cells #[.int .i64 0, .int .i64 0] 28)) (w.heap.size + 1) 28 #[.int .i64 0, .int .i64 0] := Bk.new2 w _ _ _
  refine (CCheck_any _ cs _ (hv.below (by go_grown))).mono ?_
  rintro e w1 ⟨rfl, hb1⟩
  have hbw1 : Below w.heap.size w w1 := Below.trans (by go_grown) (hb1.mono (by simp <;> omega))
  have hR1 := hR0.below hb1 (by simp)
  have r0 := hR1.cell 0
  have r1 := hR1.cell 1
  have r2 := hR1.frozen 0
  have r3 := hR1.frozen 1
  have hz1 := hR1.lt
  simp at r0 r1
  generalize checkC cs = CC at *
  obtain ⟨nx, ny⟩ := CC
  unfold fltC
  go_wp2_with fail
  exact bodyPost_ret (v := fltC (nx, ny)) (by simp [results, Try.results64, go_sem, fltC, r0, r1]) rfl ⟨by rw [HE.out], by go_grown⟩

set_option maxRecDepth 100000 in
set_option maxHeartbeats 400000 in
theorem follows_any (a b : Int) (u v : Value) (w : World) (ha : -4611686018427387904 ≤ a ∧ a ≤ 4611686018427387904) :
    Calls Try.prog 77 #[ntA a u, ntA b v] w fun e w' => e = .returned (.bool (follB a b)) ∧ Below w.heap.size w w' := by
  unfold ntA
  go_enter Try.func77, Try.ntmps77
  by_cases h1 : a = 0
  · subst h1
    go_wp2_with fail
    go_ret
    exact ⟨by simp [follB], by go_grown⟩
  · by_cases h2 : b = a + 1
    · subst h2
      go_wp2_with fail
      go_ret
      exact ⟨by simp [follB], by go_grown⟩
    · go_wp2_with fail
      go_ret
      exact ⟨by simp [follB], by go_grown⟩

set_option maxRecDepth 100000 in
set_option maxHeartbeats 1000000 in
theorem WWrite_any (s : Int) (v : Value) (cs : List Cl) (w : World) (hv : RdC w v cs) :
    Calls Try.prog 22 #[ntA s v] w fun e w' => ∃ v', e = .returned (.tuple #[v', fltC (writeN s cs).2]) ∧ Rd w' v' (bc (writeN s cs).1) ∧ Below w.heap.size w w' ∧ New w.heap.size v' := by
  obtain ⟨ao, cap, hvv, hc1, hc2⟩ := hv.shape
  subst hvv
  unfold maxLen at hc2
  unfold ntA
  go_enter Try.func22, Try.ntmps22
  go_wp2_with fail
  have hN0 : Bk ((w.alloc (.cells #[.int .i64 s, .slice ao cs.length cap] 41)).alloc (.cells #[.int .i64 0, .int .i64 0] 28)) w.heap.size 41 #[.int .i64 s, .slice ao cs.length cap] := (Bk.new w _ _).below (below_alloc' _ _) (by simp)
  have hR0 : Bk ((w.alloc (.cells #[.int .i64 s, .slice ao cs.length cap] 41)).alloc (.cells #[.int .i64 0, .int .i64 0] 28)) (w.heap.size + 1) 28 #[.int .i64 0, .int .i64 0] := Bk.new2 w _ _ _
  refine (ownFault_any s _ cs _ (hv.below (by go_grown))).mono ?_
  rintro e w1 ⟨rfl, hb1⟩
  have hbw1 : Below w.heap.size w w1 := Below.trans (by go_grown) (hb1.mono (by simp <;> omega))
  have hN1 := hN0.below hb1 (by simp <;> omega)
  have hR1 := hR0.below hb1 (by simp)
  have hz1 := hR1.lt
  clear hb1 hN0 hR0
  generalize hNF : noteF s cs = NF at *
  obtain ⟨nx, ny⟩ := NF
  by_cases hx : nx = 0
  case neg =>
    have HE : Hid (writeN s cs = ([], (nx, ny))) := hide (by rw [writeN, hNF, if_neg (by simpa using hx)])
    have hcb : (nx == 0) = false := beq_eq_false_iff_ne.2 hx
    have hcb2 : (nx != 0) = true := by simp [hx]
    have r0 := hR1.cell 0
    have r1 := hR1.cell 1
    have r2 := hR1.frozen 0
    have r3 := hR1.frozen 1
    simp at r0 r1
    unfold fltC
    go_wp2_with fail
    go_region
    all_goals
      go_wp2_with fail
      exact bodyPost_ret (v := .tuple #[.slice none 0 0, fltC (nx, ny)]) (by simp [results, Try.results22, go_sem, fltC, r0, r1, hz1]) rfl ⟨.slice none 0 0, by rw [HE.out], by rw [HE.out]; exact Rd.nil _, by go_grown, New.nil _⟩
  subst hx
  have hz := noteF_zero (s := s) (cs := cs) (by rw [hNF])
  have hny : ny = 0 := by have := hz.1; rw [hNF] at this; simpa using this
  subst hny
  have HE : Hid (writeN s cs = (noteB s cs, (0, 0))) := hide (by rw [writeN, hNF, if_pos rfl])
  have HW := hide (writeCR_note (s := s) (cs := cs) (by rw [hNF]))
  have HLB := hide (noteF_flat (s := s) (cs := cs) (by rw [hNF]))
  obtain ⟨m, rfl⟩ : ∃ m : Nat, s = (m : Int) := ⟨s.toNat, by omega⟩
  have hm : m ≤ 1000000000 := by omega
  have HEB : Hid (noteB (m : Int) cs = encN m ++ flatC cs) := hide (by rw [noteB]; simp)
  have n0 := hN1.cell 0
  have n1 := hN1.cell 1
  have hzn := hN1.lt
  simp at n0 n1
  clear hz hNF
  unfold fltC
  go_wp2_with fail
  have hbA := below_alloc' w1 (.cells #[.int .i64 0, .int .i64 0] 28)
  refine (CWrite_any _ cs _ ((hv.below hbw1).alloc _)).mono ?_
  rintro e w2 ⟨v2, rfl, hr2, hb2, hn2⟩
  rw [HW.out] at hr2 ⊢
  have hb12 : Below w1.heap.size w1 w2 := hbA.trans (hb2.mono (by simp))
  have hN2 := hN1.below hb12 hN1.lt
  have hR2 := hR1.below hb12 hR1.lt
  have hbw2 := hbw1.trans (hb12.mono (by omega))
  have hz2 := hR2.lt
  have q0 := hN2.cell 0
  obtain ⟨vo2, vc2, hv2, _, _⟩ := hr2.shape
  rw [bc_length] at hv2
  simp only at hv2 hr2
  subst hv2
  simp at q0
  clear hb2 hb12 hbA n0 n1 hN1 hR1
  unfold fltC
  go_upto_region 7 with fail
  have hbB := below_alloc' w2 (.cells #[.int .i64 0, .int .i64 0] 28)
  have hR3 := hR2.below hbB hz2
  have hbw3 := hbw2.trans (hbB.mono (by omega))
  have hr3 := hr2.alloc (.cells #[.int .i64 0, .int .i64 0] 28)
  have hz3 : w2.heap.size < (w2.alloc (.cells #[.int .i64 0, .int .i64 0] 28)).heap.size := by simp
  have q1 := (hN2.below hbB hN2.lt).cell 0
  simp at q1
  generalize w2.alloc (.cells #[.int .i64 0, .int .i64 0] 28) = w3 at *
  clear q0 hN2 hR2 hbB hbw2 hr2
  go_wp2_with fail
  refine (AppendNum_any _ [] m w3.heap.size _ (World.ownsRow_nil _ _ _ _) (Nat.le_refl _) (by omega) (by simp)).mono ?_
  rintro e w4 ⟨v4, rfl, ho4, hb4, _⟩
  rw [List.nil_append] at ho4
  have hr4 := hr3.below hb4
  have hR4 := hR3.below hb4 hR3.lt
  have hbw4 := hbw3.trans (hb4.mono (by omega))
  have hz4 := hb4.size
  have hl4 : (encN m).length + (bc (flatC cs)).length ≤ 2000000000000 := by
    have := encN_length m
    have := HLB.out
    rw [bc_length]
    omega
  obtain ⟨vo4, vc4, hv4⟩ := owns_shape ho4
  subst hv4
  clear q1 hr3 hR3 hbw3
  go_wp2_with (at_builtin; go_must (refine wpList_append_rd ho4 hr4 Try.underlying42 Try.info5 rfl rfl rfl rfl rfl (bc_one _) hl4 (by decide) hz4 ?_); intro v5 w5 ho5 hb5 hg5; clear hg5; have hR5 := hR4.below hb5 (by omega); have r0 := hR5.cell 0; have r1 := hR5.cell 1; have r2 := hR5.frozen 0; have r3 := hR5.frozen 1; have hz5 := hR5.lt; simp at r0 r1)
  rw [← bc_append] at ho5
  refine bodyPost_ret (v := .tuple #[v5, fltC (0, 0)]) (by simp [results, Try.results22, go_sem, fltC, r0, r1]) rfl ⟨v5, by rw [HE.out], by rw [HE.out]; show Rd _ _ (bc (noteB (m : Int) cs)); rw [HEB.out]; exact Rd.ofOwns (ownsRow_setCell_below (ownsRow_setCell_below ho5 (by simp only; omega) _) (by simp only; omega) _), ?_, (New.owns ho5).mono (by omega)⟩
  have hbw5 := hbw4.trans (hb5.mono (by omega))
  exact (hbw5.setCell (by simp only; omega) _).setCell (by simp only; omega) _

end Go.Proofs.Ytdodajalejfbiad

/-
  The walks over wal.notesFault and wal.Apply.
-/
namespace Go.Proofs.Ytdodajalejfbiad
open Go.RowKit

/-- What is wrong with notes. -/
def nfGo : List Nt → Nat → Int × Int
  | [], _ => (0, 0)
  | n :: r, i => if (noteF n.seq n.cells).1 ≠ 0 then ((noteF n.seq n.cells).1, (i : Int)) else nfGo r (i + 1)
def notesF (ns : List Nt) : Int × Int := if 1000 < ns.length then (2, -1) else nfGo ns 0

theorem nfGo_hit {ns : List Nt} {k : Nat} {n : Nt} (h : ns[k]? = some n) (h2 : (noteF n.seq n.cells).1 ≠ 0) : nfGo (ns.drop k) k = ((noteF n.seq n.cells).1, (k : Int)) := by
  obtain ⟨hk, e⟩ := List.getElem?_eq_some_iff.1 h
  rw [List.drop_eq_getElem_cons hk, e, nfGo, if_pos h2]
theorem nfGo_next {ns : List Nt} {k : Nat} {n : Nt} (h : ns[k]? = some n) (h2 : (noteF n.seq n.cells).1 = 0) : nfGo (ns.drop k) k = nfGo (ns.drop (k + 1)) (k + 1) := by
  obtain ⟨hk, e⟩ := List.getElem?_eq_some_iff.1 h
  rw [List.drop_eq_getElem_cons hk, e, nfGo, if_neg (by omega)]
theorem nfGo_zero : ∀ {ns : List Nt} {i : Nat}, (nfGo ns i).1 = 0 → nfGo ns i = (0, 0) ∧ ∀ n ∈ ns, (noteF n.seq n.cells).1 = 0
  | [], _, _ => ⟨rfl, by simp⟩
  | n :: r, i, h => by
    rw [nfGo] at h ⊢
    by_cases h1 : (noteF n.seq n.cells).1 = 0
    · rw [if_neg (by omega)] at h ⊢
      obtain ⟨h2, h3⟩ := nfGo_zero h
      exact ⟨h2, fun m hm => by
        rcases List.mem_cons.1 hm with rfl | hm
        · exact h1
        · exact h3 m hm⟩
    · rw [if_pos h1] at h
      exact absurd h h1
theorem notesF_zero {ns : List Nt} (h : (notesF ns).1 = 0) : notesF ns = (0, 0) ∧ ns.length ≤ 1000 ∧ ∀ n ∈ ns, (noteF n.seq n.cells).1 = 0 := by
  unfold notesF at h ⊢
  by_cases h1 : 1000 < ns.length
  · rw [if_pos h1] at h; simp at h
  · rw [if_neg h1] at h ⊢
    exact ⟨(nfGo_zero h).1, by omega, (nfGo_zero h).2⟩

set_option maxRecDepth 100000 in
set_option maxHeartbeats 1000000 in
theorem notesFault_any (v : Value) (ns : List Nt) (w : World) (hv : RdN w v ns) :
    Calls Try.prog 83 #[v] w fun e w' => e = .returned (fltC (notesF ns)) ∧ Below w.heap.size w w' := by
  obtain ⟨ao, cap, hvv, hc1, hc2⟩ := hv.shape
  subst hvv
  unfold maxLen at hc2
  go_enter Try.func83, Try.ntmps83
  by_cases hbig : 1000 < ns.length
  · have HE : Hid (notesF ns = (2, -1)) := hide (by rw [notesF, if_pos hbig])
    go_wp2_with fail
    exact bodyPost_ret (v := fltC (2, -1)) (by simp [results, Try.results83, go_sem, fltC]) rfl ⟨by rw [HE.out], by go_grown⟩
  have HE : Hid (notesF ns = nfGo ns 0) := hide (by rw [notesF, if_neg hbig])
  have hF0 := Bk.new w 28 #[.int .i64 0, .int .i64 0]
  have hb0 := below_alloc' w (.cells #[.int .i64 0, .int .i64 0] 28)
  have HF0 := hide hF0
  have HB0 := hide hb0
  have hz0 : (w.alloc (.cells #[.int .i64 0, .int .i64 0] 28)).heap.size = w.heap.size + 1 := by simp
  have HZ0 := hide hz0
  clear hF0 hb0 hz0
  go_wp2_with fail
  generalize w.alloc (.cells #[.int .i64 0, .int .i64 0] 28) = w0 at *
  have hF0 := HF0.out
  have hb0 := HB0.out
  have hz0 := HZ0.out
  clear HF0 HB0 HZ0
  go_loopw [12] (fun iv wr => ∃ (k : Nat), k ≤ ns.length ∧ iv = .int .i64 k ∧ nfGo (ns.drop k) k = nfGo ns 0 ∧ Below w0.heap.size w0 wr)
    (fun iv _ => ns.length - (intOf iv).toNat)
  case atStart => exact ⟨0, by omega, rfl, rfl, Below.refl _ _⟩
  case round =>
    obtain ⟨k, hk, rfl, hgo, hbel⟩ := hrel
    have HG := hide hgo
    clear hgo
    have hbw := hb0.trans (hbel.mono (by omega))
    have hzr := hbel.size
    have hFr := hF0.below hbel hF0.lt
    by_cases hlt : k < ns.length
    · obtain ⟨n, hn⟩ : ∃ n, ns[k]? = some n := ⟨_, List.getElem?_eq_getElem hlt⟩
      have HHIT := hide (@nfGo_hit ns k n hn)
      have HNXT := hide (@nfGo_next ns k n hn)
      obtain ⟨bb, off, u, rfl, hbb, k0, k1, hr⟩ := (hv.below hbw).hereD hn
      obtain ⟨s, cs⟩ := n
      simp only at k0 hr HHIT HNXT
      obtain ⟨uo, uc, huu, _, _⟩ := hr.shape
      subst huu
      have hk1 : (0 : Int) ≤ (k : Int) := by omega
      have hk2 : (k : Int) < (ns.length : Int) := by omega
      clear hn
      go_wp2_with fail
      refine (ownFault_any s _ cs _ (hr.alloc _)).mono ?_
      rintro e w2 ⟨rfl, hb2⟩
      have hb12 : Below wr.heap.size wr w2 := (below_alloc' _ _).trans (hb2.mono (by simp))
      have hbel2 := hbel.trans (hb12.mono hzr)
      have hF2 := hF0.below hbel2 hF0.lt
      have hbw2 := hb0.trans (hbel2.mono (by omega))
      have HNZ := hide (@noteF_zero s cs)
      clear k0 k1 hb2 hFr
      have f0 := hF2.cell 0
      have f1 := hF2.cell 1
      have f2 := hF2.frozen 0
      have f3 := hF2.frozen 1
      have hlF := hF2.lt
      simp at f0 f1
      generalize noteF s cs = NF at *
      obtain ⟨nx, ny⟩ := NF
      simp only at HNZ HHIT HNXT
      by_cases hx : nx = 0
      · subst hx
        have hny : ny = 0 := by have := (HNZ.out rfl).1; simpa using this
        subst hny
        have HN1 := hide (HNXT.out rfl)
        clear HHIT HNXT HNZ
        unfold fltC
        go_wp2_with fail
        go_roundw
        case rel => exact ⟨k + 1, by omega, by go_num, by rw [← HN1.out]; exact HG.out, hbel2.alloc (Nat.le_trans hzr hb12.size) _⟩
        case measure => simp [intOf]; omega
      · have HH1 := hide (HHIT.out hx)
        have hcb : (nx == 0) = false := beq_eq_false_iff_ne.2 hx
        have hcb2 : (nx != 0) = true := by simp [hx]
        clear HHIT HNXT HNZ
        unfold fltC
        go_wp2_with fail
        exact bodyPost_ret (v := fltC (nx, k)) (by simp [results, Try.results83, go_sem, fltC, f0, f1, hlF]) rfl ⟨by rw [HE.out, ← HG.out, HH1.out], by go_grown⟩
    · rw [List.drop_eq_nil_of_le (by omega)] at HG
      have f0 := hFr.cell 0
      have f1 := hFr.cell 1
      have f2 := hFr.frozen 0
      have f3 := hFr.frozen 1
      have hlF := hFr.lt
      simp at f0 f1
      go_wp2_with fail
      exact bodyPost_ret (v := fltC (0, 0)) (by simp [results, Try.results83, go_sem, fltC, f0, f1]) rfl ⟨by rw [HE.out, ← HG.out]; rfl, by go_grown⟩

end Go.Proofs.Ytdodajalejfbiad

/-
  The walk over wal.Apply.
-/
namespace Go.Proofs.Ytdodajalejfbiad
open Go.RowKit

theorem mrg_ge (c : Cl) : ∀ (l : List Cl), l.length ≤ (mrg l [c]).length
  | [] => by simp [mrg]
  | x :: l => by
    by_cases h1 : ordC x c < 0
    · rw [mrg_left h1]
      have := mrg_ge c l
      simp only [List.length_cons]
      omega
    · by_cases h2 : ordC x c = 0
      · rw [mrg_both h2, mrg_nil_right]
        simp
      · rw [mrg_right (by omega), mrg_nil_right]
        simp

theorem putL_ge : ∀ (cs l : List Cl), l.length ≤ (putL l cs).length
  | [], _ => Nat.le_refl _
  | c :: cs, l => Nat.le_trans (mrg_ge c l) (putL_ge cs (mrg l [c]))

/-- Notes that are put in, one behind the other. -/
def putN (l : List Cl) (ns : List Nt) : List Cl := ns.foldl (fun a n => putL a n.cells) l

theorem putN_take {l : List Cl} {ns : List Nt} {k : Nat} {n : Nt} (h : ns[k]? = some n) : putN l (ns.take (k + 1)) = putL (putN l (ns.take k)) n.cells := by
  rw [List.take_add_one, h]
  simp [putN]
theorem putN_append (l : List Cl) (a b : List Nt) : putN l (a ++ b) = putN (putN l a) b := by simp [putN]
theorem putN_pw : ∀ (ns : List Nt) (l : List Cl), l.Pairwise Lt → (putN l ns).Pairwise Lt
  | [], _, h => h
  | n :: ns, l, h => putN_pw ns _ (putL_pw n.cells l h)
theorem putN_ge : ∀ (ns : List Nt) (l : List Cl), l.length ≤ (putN l ns).length
  | [], _ => Nat.le_refl _
  | n :: ns, l => Nat.le_trans (putL_ge n.cells l) (putN_ge ns _)
theorem putN_mono {l : List Cl} {ns : List Nt} (k : Nat) : (putN l (ns.take k)).length ≤ (putN l ns).length := by
  have h := putN_ge (ns.drop k) (putN l (ns.take k))
  rwa [← putN_append, List.take_append_drop] at h

/-- What Apply comes to. -/
def applyR (l : List Cl) (ns : List Nt) : List Cl × (Int × Int) :=
  if (checkC l).1 ≠ 0 then ([], checkC l) else if (notesF ns).1 ≠ 0 then ([], notesF ns) else if 1000 < (putN l ns).length then ([], (9, -1)) else (putN l ns, (0, 0))

theorem applyR_cells {l : List Cl} {ns : List Nt} (h : (checkC l).1 ≠ 0) : applyR l ns = ([], checkC l) := by rw [applyR, if_pos h]
theorem applyR_notes {l : List Cl} {ns : List Nt} (h : (checkC l).1 = 0) (h2 : (notesF ns).1 ≠ 0) : applyR l ns = ([], notesF ns) := by rw [applyR, if_neg (by omega), if_pos h2]
theorem applyR_much {l : List Cl} {ns : List Nt} (h : (checkC l).1 = 0) (h2 : (notesF ns).1 = 0) (h3 : 1000 < (putN l ns).length) : applyR l ns = ([], (9, -1)) := by rw [applyR, if_neg (by omega), if_neg (by omega), if_pos h3]
theorem applyR_ok {l : List Cl} {ns : List Nt} (h : (checkC l).1 = 0) (h2 : (notesF ns).1 = 0) (h3 : ¬ 1000 < (putN l ns).length) : applyR l ns = (putN l ns, (0, 0)) := by rw [applyR, if_neg (by omega), if_neg (by omega), if_neg h3]

set_option maxRecDepth 100000 in
set_option maxHeartbeats 2000000 in
theorem Apply_any (v u : Value) (l : List Cl) (ns : List Nt) (w : World) (hv : RdC w v l) (hu : RdN w u ns) :
    Calls Try.prog 45 #[v, u] w fun e w' => ∃ v', e = .returned (.tuple #[v', fltC (applyR l ns).2]) ∧ RdC w' v' (applyR l ns).1 ∧ Below w.heap.size w w' ∧ New w.heap.size v' := by
  obtain ⟨ao, cap, hvv, hc1, hc2⟩ := hv.shape
  subst hvv
  unfold maxLen at hc2
  obtain ⟨uo, ucap, huu, hd1, hd2⟩ := hu.shape
  subst huu
  unfold maxLen at hd2
  go_enter Try.func45, Try.ntmps45
  go_wp2_with fail
  have hF0 := Bk.new w 28 #[.int .i64 0, .int .i64 0]
  refine (CCheck_any _ l _ (hv.alloc _)).mono ?_
  rintro e w1 ⟨rfl, hb1⟩
  have hF1 := hF0.below hb1 (by simp)
  have hbw1 : Below w.heap.size w w1 := (below_alloc' _ _).trans (hb1.mono (by simp))
  have hz1 := hF1.lt
  clear hF0 hb1
  have f0 := hF1.cell 0
  have f1 := hF1.cell 1
  have f2 := hF1.frozen 0
  have f3 := hF1.frozen 1
  simp at f0 f1
  have HAC := hide (@applyR_cells l ns)
  have HAN := hide (@applyR_notes l ns)
  have HAM := hide (@applyR_much l ns)
  have HAO := hide (@applyR_ok l ns)
  have HCZ := hide (@checkC_zero l)
  have HPW := hide (@fine_pw l)
  have HLN := hide (@fine_len l)
  generalize checkC l = CC at *
  obtain ⟨cx, cy⟩ := CC
  simp only at HAC HAN HAM HAO HCZ HPW HLN
  by_cases hx : cx = 0
  case neg =>
    have HE := hide (HAC.out hx)
    have hcb : (cx == 0) = false := beq_eq_false_iff_ne.2 hx
    have hcb2 : (cx != 0) = true := by simp [hx]
    clear HAC HAN HAM HAO HCZ HPW HLN
    unfold fltC
    go_wp2_with fail
    go_region
    all_goals
      go_wp2_with fail
      exact bodyPost_ret (v := .tuple #[.slice none 0 0, fltC (cx, cy)]) (by simp [results, Try.results45, go_sem, fltC, f0, f1, hz1]) rfl ⟨.slice none 0 0, by rw [HE.out], by rw [HE.out]; exact RdC.nil _, by go_grown, New.nil _⟩
  subst hx
  have hcy : cy = 0 := by have := HCZ.out rfl; simpa using this
  subst hcy
  have hpw := HPW.out rfl
  have hln := HLN.out rfl
  have HPW1 := hide hpw
  have HAN1 := hide (fun h => HAN.out rfl h)
  have HAM1 := hide (fun h => HAM.out rfl h)
  have HAO1 := hide (fun h => HAO.out rfl h)
  clear HAC HAN HAM HAO HCZ HPW HLN hpw
  unfold fltC
  go_upto_region 4 with fail
  have hbA := below_alloc' w1 (.cells #[.int .i64 0, .int .i64 0] 28)
  have hF2 := hF1.below hbA hF1.lt
  have hbw2 := hbw1.trans (hbA.mono hbw1.size)
  generalize w1.alloc (.cells #[.int .i64 0, .int .i64 0] 28) = w2 at *
  clear hbA hF1 hbw1 f0 f1 f2 f3
  go_wp2_with fail
  refine (notesFault_any _ ns _ (hu.below hbw2)).mono ?_
  rintro e w3 ⟨rfl, hb3⟩
  have hF3 := hF2.below hb3 hF2.lt
  have hbw3 := hbw2.trans (hb3.mono hbw2.size)
  have hz3 := hF3.lt
  clear hF2 hb3 hbw2
  have f0 := hF3.cell 0
  have f1 := hF3.cell 1
  have f2 := hF3.frozen 0
  have f3 := hF3.frozen 1
  simp at f0 f1
  have HNZ := hide (@notesF_zero ns)
  generalize notesF ns = NF at *
  obtain ⟨nx, ny⟩ := NF
  simp only at HNZ HAN1 HAM1 HAO1
  by_cases hx : nx = 0
  case neg =>
    have HE := hide (HAN1.out hx)
    have hcb : (nx == 0) = false := beq_eq_false_iff_ne.2 hx
    have hcb2 : (nx != 0) = true := by simp [hx]
    clear HAN1 HAM1 HAO1 HNZ
    unfold fltC
    go_wp2_with fail
    go_region
    all_goals
      go_wp2_with fail
      exact bodyPost_ret (v := .tuple #[.slice none 0 0, fltC (nx, ny)]) (by simp [results, Try.results45, go_sem, fltC, f0, f1, hz3]) rfl ⟨.slice none 0 0, by rw [HE.out], by rw [HE.out]; exact RdC.nil _, by go_grown, New.nil _⟩
  subst hx
  obtain ⟨hny, hnl, hfine⟩ := HNZ.out rfl
  have hny0 : ny = 0 := by simpa using hny
  subst hny0
  have HFI := hide hfine
  have HAM2 := hide (HAM1.out rfl)
  have HAO2 := hide (HAO1.out rfl)
  clear HAN1 HAM1 HAO1 HNZ hny hfine
  unfold fltC
  go_upto_region 7 with fail
  have hbA := below_alloc' w3 (.cells #[.int .i64 0, .int .i64 0] 28)
  have hF4 := hF3.below hbA hF3.lt
  have hbw4 := hbw3.trans (hbA.mono hbw3.size)
  generalize w3.alloc (.cells #[.int .i64 0, .int .i64 0] 28) = w4 at *
  clear hbA hF3 hbw3 f0 f1 f2 f3
  go_wp2_with fail
  refine (Clone_own _ l _ (hv.below hbw4) (by omega)).mono ?_
  rintro e w5 ⟨v5, rfl, ho5, hb5⟩
  have hz45 := hb5.size
  have hz4 := hF4.lt
  have hzw := hbw4.size
  go_wp2_with fail
  go_loopw [8, 27] (fun o iv wr => ∃ (k : Nat), k ≤ ns.length ∧ iv = .int .i64 k ∧ (putN l (ns.take k)).length ≤ 1000 ∧ wr.ownsRow w4.heap.size 91 5 o (putN l (ns.take k)).length (cc (putN l (ns.take k))) ∧ Below w4.heap.size w4 wr)
    (fun _ iv _ => ns.length - (intOf iv).toNat)
  case atStart => exact ⟨0, by omega, rfl, hln, ho5, hb5⟩
  case round =>
    obtain ⟨k, hk, rfl, hlk, hor, hbel⟩ := hrel
    have hzr := hbel.size
    have hbw := hbw4.trans (hbel.mono hzw)
    have hFr := hF4.below hbel hF4.lt
    have HPL := hide (putN_pw (ns.take k) l HPW1.out)
    by_cases hlt : k < ns.length
    · obtain ⟨n, hn⟩ : ∃ n, ns[k]? = some n := ⟨_, List.getElem?_eq_getElem hlt⟩
      have HTK := hide (putN_take (l := l) hn)
      have hfn := noteF_zero (HFI.out n (List.mem_of_getElem? hn))
      have hn20 := hfn.2.2.2.2.1
      have HMO := hide (@putN_mono l ns (k + 1))
      obtain ⟨bb, off, x, rfl, hbb, j0, j1, hr⟩ := (hu.below hbw4).hereD hn
      have k0 := cell_belowC j0 hbel
      have k1 := cell_belowC j1 hbel
      have hbr : bb < wr.heap.size := by omega
      have HR4 := hide hr
      clear j0 j1
      obtain ⟨s, cs⟩ := n
      simp only at k0 hr HTK hn20 HR4
      obtain ⟨xo, xc, hxx, _, _⟩ := hr.shape
      subst hxx
      have hk1 : (0 : Int) ≤ (k : Int) := by omega
      have hk2 : (k : Int) < (ns.length : Int) := by omega
      clear hn hfn
      generalize putN l (ns.take k) = acc at *
      obtain ⟨oo, oc, hov⟩ := ownsC_shape hor
      subst hov
      have hbA := below_alloc' wr (.cells #[.int .i64 s, .slice xo cs.length xc] 41)
      have horA := owns_below hor hbA
      have hbelA := hbel.trans (hbA.mono hzr)
      go_wp2_with fail
      refine (putIn_any _ _ acc cs w4.heap.size _ horA hbelA.size HPL.out (by omega) (fun W hW => HR4.out.below (hbelA.trans hW))).mono ?_
      rintro e w6 ⟨v6, rfl, ho6, hb6⟩
      have hbel6 := hbelA.trans hb6
      have hF6 := hF4.below hbel6 hF4.lt
      have hbw6 := hbw4.trans (hbel6.mono hzw)
      have hz6 := hF6.lt
      rw [← HTK.out] at ho6
      clear k0 k1 horA hbelA hbA hor hFr HTK
      obtain ⟨Y, hY⟩ : ∃ Y, putN l (ns.take (k + 1)) = Y := ⟨_, rfl⟩
      rw [hY] at ho6 HMO
      have HY := hide hY
      clear hY
      obtain ⟨o6, c6, hv6⟩ := ownsC_shape ho6
      subst hv6
      have f0 := hF6.cell 0
      have f1 := hF6.cell 1
      have f2 := hF6.frozen 0
      have f3 := hF6.frozen 1
      simp at f0 f1
      by_cases hm : 1000 < Y.length
      · have HE := hide (HAM2.out (Nat.lt_of_lt_of_le hm HMO.out))
        have hm' : (1000 : Int) < (Y.length : Int) := by omega
        go_wp2_with fail
        exact bodyPost_ret (v := .tuple #[.slice none 0 0, fltC (9, -1)]) (by simp [results, Try.results45, go_sem, fltC, f0, f1]) rfl ⟨.slice none 0 0, by rw [HE.out], by rw [HE.out]; exact RdC.nil _, by go_grown, New.nil _⟩
      · have hm' : ¬ (1000 : Int) < (Y.length : Int) := by omega
        go_wp2_with fail
        go_roundw
        case rel => exact ⟨k + 1, by omega, by go_num, by rw [HY.out]; omega, by rw [HY.out]; exact ho6, hbel6⟩
        case measure => simp [intOf]; omega
    · have hke : k = ns.length := by omega
      subst hke
      rw [List.take_length] at hor hlk
      have HE := hide (HAO2.out (by omega))
      obtain ⟨oo, oc, hov⟩ := ownsC_shape hor
      subst hov
      have f0 := hFr.cell 0
      have f1 := hFr.cell 1
      have f2 := hFr.frozen 0
      have f3 := hFr.frozen 1
      have hzF := hFr.lt
      simp at f0 f1
      go_wp2_with fail
      refine bodyPost_ret (v := .tuple #[.slice oo (putN l ns).length oc, fltC (0, 0)]) (by simp [results, Try.results45, go_sem, fltC, f0, f1]) rfl ⟨_, by rw [HE.out], ?_, by go_grown, (New.owns hor).mono (by omega)⟩
      rw [HE.out]
      exact RdC.ofOwns (ownsRow_setCell_below (ownsRow_setCell_below hor (by simp only; omega) _) (by simp only; omega) _)

end Go.Proofs.Ytdodajalejfbiad

/-
  The walk over wal.Read.
-/
namespace Go.Proofs.Ytdodajalejfbiad
open Go.RowKit

set_option maxRecDepth 100000 in
set_option maxHeartbeats 2000000 in
theorem WRead_any (v : Value) (bs : List UInt8) (w : World) (hrd : Rd w v (bc bs)) :
    Calls Try.prog 23 #[v] w fun e w' => ∃ v', e = .returned (.tuple #[ntA (readN bs).1.seq v', fltC (readN bs).2]) ∧ RdC w' v' (readN bs).1.cells ∧ Below w.heap.size w w' ∧ New w.heap.size v' := by
  obtain ⟨ao, cap, hvv, hc1, hc2⟩ := hrd.shape
  rw [bc_length] at hc1 hvv
  subst hvv
  unfold maxLen at hc2
  go_enter Try.func23, Try.ntmps23
  by_cases hbig : 60000 < bs.length
  · have HE := hide (readN_big hbig)
    go_wp2_with fail
    exact bodyPost_ret (v := .tuple #[ntA 0 (.slice none 0 0), fltC (8, 0)]) (by simp [results, Try.results23, go_sem, fltC, ntA]) rfl ⟨.slice none 0 0, by rw [HE.out]; rfl, by rw [HE.out]; exact RdC.nil _, by go_grown, New.nil _⟩
  have hA0 : Bk ((w.alloc (.cells #[.int .i64 0, .slice none 0 0] 41)).alloc (.cells #[.int .i64 0, .int .i64 0] 28)) w.heap.size 41 #[.int .i64 0, .slice none 0 0] := (Bk.new w _ _).below (below_alloc' _ _) (by simp)
  have hF0 : Bk ((w.alloc (.cells #[.int .i64 0, .slice none 0 0] 41)).alloc (.cells #[.int .i64 0, .int .i64 0] 28)) (w.heap.size + 1) 28 #[.int .i64 0, .int .i64 0] := Bk.new2 w _ _ _
  go_wp2_with fail
  refine (ReaderOf_any ao bs.length cap _).mono ?_
  rintro e w1 ⟨rfl, hb1, hz1⟩
  have hA1 := hA0.below hb1 (by simp <;> omega)
  have hF1 := hF0.below hb1 (by simp)
  have hbw1 : Below w.heap.size w w1 := Below.trans (by go_grown) (hb1.mono (by simp <;> omega))
  have hzz : w1.heap.size = w.heap.size + 3 := by rw [hz1]; simp
  clear hA0 hF0 hb1 hz1
  have hblk : ∀ a l c, Value.slice ao bs.length cap = .slice (some a) l c → 0 < (bc bs).length → a.block < w.heap.size := by
    intro a l c e hp
    simp only [Value.slice.injEq] at e
    obtain ⟨rfl, _, _⟩ := e
    obtain ⟨b, off, cap', hv, _, _, hb, _⟩ := hrd.pos hp
    simp only [Value.slice.injEq, Option.some.injEq] at hv
    rw [hv.1]
    exact hb
  have HBLK := hide hblk
  clear hblk
  have hbA := below_alloc' w1 (.cells #[.slice ao bs.length cap, .int .i64 0] 104)
  have hR : RdrT (w1.alloc (.cells #[.slice ao bs.length cap, .int .i64 0] 104)) 104 w1.heap.size (.slice ao bs.length cap) (0 : Nat) := heap_alloc_new _ _
  have hA2 := hA1.below hbA hA1.lt
  have hF2 := hF1.below hbA hF1.lt
  have hrd2 := (hrd.below hbw1).below hbA
  have hbw2 := hbw1.trans (hbA.mono (by omega))
  have hz2 : (w1.alloc (.cells #[.slice ao bs.length cap, .int .i64 0] 104)).heap.size = w.heap.size + 4 := by simp [hzz]
  clear hA1 hF1 hbA hbw1
  go_upto_region 4 with fail
  generalize w1.alloc (.cells #[.slice ao bs.length cap, .int .i64 0] 104) = w2 at *
  have hRz : w1.heap.size = w.heap.size + 3 := hzz
  generalize w1.heap.size = R at *
  subst hRz
  clear hzz
  go_wp2_with fail
  refine (Num_any _ (w.heap.size + 3) _ bs 0 _ hrd2 hR (by omega)).mono ?_
  rintro e w3 ⟨rfl, hR3, hg3⟩
  rw [List.drop_zero] at hR3 ⊢
  have hA3 := hA2.grown hg3 (by simp)
  have hF3 := hF2.grown hg3 (by simp)
  have hbw3 := hbw2.grown hg3 (by omega) (fun k hk => by simp at hk; omega)
  have hz3 := hg3.size
  clear hA2 hF2 hbw2 hR hg3 hrd2
  cases hn : numAt bs with
  | none =>
    have HE := hide (readN_form hbig hn)
    have a0 := hA3.cell 0
    have a1 := hA3.cell 1
    have a2 := hA3.frozen 0
    have a3 := hA3.frozen 1
    have f0 := hF3.cell 0
    have f1 := hF3.cell 1
    have f2 := hF3.frozen 0
    have f3 := hF3.frozen 1
    have hlt := hF3.lt
    have hltA := hA3.lt
    simp at a0 a1 f0 f1
    clear hn hR3
    unfold numVC
    go_wp2_with fail
    exact bodyPost_ret (v := .tuple #[ntA 0 (.slice none 0 0), fltC (5, -1)]) (by simp [results, Try.results23, go_sem, fltC, ntA, a0, a1, f0, f1]) rfl ⟨.slice none 0 0, by rw [HE.out]; rfl, by rw [HE.out]; exact RdC.nil _, by go_grown, New.nil _⟩
  | some p =>
    obtain ⟨s, k⟩ := p
    obtain ⟨hk0, hk1, hs⟩ := numAt_len hn
    rw [hn] at hR3
    simp only [numKC, Nat.zero_add] at hR3
    have hrd3 := hrd.below hbw3
    unfold numVC
    go_wp2_with fail
    refine (Rest_any _ (w.heap.size + 3) _ bs k _ hrd3 hR3 hk1).mono ?_
    rintro e w4 ⟨⟨vo, vc, rfl, hrr, _⟩, q, rfl⟩
    have hA4 : Bk (w3.drewN q) w.heap.size 41 #[.int .i64 0, .slice none 0 0] := hA3
    have hF4 : Bk (w3.drewN q) (w.heap.size + 1) 28 #[.int .i64 0, .int .i64 0] := hF3
    have hbw4 := below_drewN hbw3 q
    have hrr4 := hrr.drewN q
    have hz4 : w2.heap.size ≤ (w3.drewN q).heap.size := hz3
    clear hA3 hF3 hrr hR3 hrd3 hbw3 hz3
    generalize w3.drewN q = w4 at *
    clear hrd
    go_wp2_with fail
    refine (CRead_any _ (bs.drop k) _ (by rw [show bs.length - k = (bs.drop k).length by simp] at hrr4; simpa using hrr4)).mono ?_
    rintro e w5 ⟨v5, rfl, hr5, hb5, hn5⟩
    have hA5 := hA4.below hb5 hA4.lt
    have hF5 := hF4.below hb5 hF4.lt
    have hbw5 := hbw4.trans (hb5.mono (by omega))
    have hz5 := hb5.size
    have hnn5 := hn5.mono (show w.heap.size + 4 ≤ w4.heap.size by omega)
    clear hA4 hF4 hbw4 hb5 hrr4 hn5
    have a0 := hA5.cell 0
    have a1 := hA5.cell 1
    have a2 := hA5.frozen 0
    have a3 := hA5.frozen 1
    have f0 := hF5.cell 0
    have f1 := hF5.cell 1
    have f2 := hF5.frozen 0
    have f3 := hF5.frozen 1
    have hlt := hF5.lt
    have hltA := hA5.lt
    simp at a0 a1 f0 f1
    have HOWN := hide (@readN_own bs s k hbig hn)
    have HOK := hide (@readN_ok bs s k hbig hn)
    have HCE := hide (@readN_cells bs s k hbig hn)
    have HFZ := hide (@readCR_zero (bs.drop k))
    clear hn
    generalize readCR (bs.drop k) = RC at *
    obtain ⟨cs, x, y⟩ := RC
    obtain ⟨vo5, vc5, hv5, hv51, hv52⟩ := hr5.shape
    simp only at hr5 hv5 hv51 HOWN HOK HCE HFZ ⊢
    subst hv5
    unfold maxLen at hv52
    by_cases hx : x = 0
    case neg =>
      have HE := hide (HCE.out hx)
      have hcb : (x == 0) = false := beq_eq_false_iff_ne.2 hx
      have hcb2 : (x != 0) = true := by simp [hx]
      clear HOWN HOK HCE HFZ
      unfold fltC
      go_wp2_with fail
      go_region
      all_goals
        go_wp2_with fail
        exact bodyPost_ret (v := .tuple #[ntA 0 (.slice none 0 0), fltC (x, y)]) (by simp [results, Try.results23, go_sem, fltC, ntA, a0, a1, f0, f1, hlt, hltA]) rfl ⟨.slice none 0 0, by rw [HE.out]; rfl, by rw [HE.out]; exact RdC.nil _, by go_grown, New.nil _⟩
    subst hx
    have hy : y = 0 := HFZ.out rfl
    subst hy
    have HOWN1 := hide (HOWN.out rfl)
    have HOK1 := hide (HOK.out rfl)
    clear HCE HFZ HOWN HOK
    unfold fltC
    have hb57 : Below w5.heap.size w5 ((w5.alloc (.cells #[.int .i64 0, .int .i64 0] 28)).alloc (.cells #[.int .i64 s, .slice vo5 cs.length vc5] 41)) := (below_alloc' _ _).alloc (by simp) _
    have hNt : Bk ((w5.alloc (.cells #[.int .i64 0, .int .i64 0] 28)).alloc (.cells #[.int .i64 s, .slice vo5 cs.length vc5] 41)) (w5.heap.size + 1) 41 #[.int .i64 s, .slice vo5 cs.length vc5] := Bk.new2 w5 _ _ _
    have HB57 := hide hb57
    have HNT := hide hNt
    clear hb57 hNt
    go_upto_region 11 with fail
    generalize (w5.alloc (.cells #[.int .i64 0, .int .i64 0] 28)).alloc (.cells #[.int .i64 s, .slice vo5 cs.length vc5] 41) = w7 at *
    have hb57 := HB57.out
    have hNt := HNT.out
    have hA7 := hA5.below hb57 hA5.lt
    have hF7 := hF5.below hb57 hF5.lt
    have hr7 := hr5.below hb57
    have hbw7 := hbw5.trans (hb57.mono (by omega))
    have hz7 := hb57.size
    have hlN := hNt.lt
    have n0 := hNt.cell 0
    have n1 := hNt.cell 1
    simp at n0 n1
    clear hA5 hF5 hbw5 hr5 a0 a1 a2 a3 f0 f1 f2 f3 hlt hb57 HB57 HNT
    go_wp2_with fail
    refine (ownFault_any s _ cs _ hr7).mono ?_
    rintro e w8 ⟨rfl, hb8⟩
    have hA8 := hA7.below hb8 hA7.lt
    have hF8 := hF7.below hb8 hF7.lt
    have hN8 := hNt.below hb8 hNt.lt
    have hr8 := hr7.below hb8
    have hbw8 := hbw7.trans (hb8.mono (by omega))
    have hz8 := hb8.size
    have a0 := hA8.cell 0
    have a1 := hA8.cell 1
    have a2 := hA8.frozen 0
    have a3 := hA8.frozen 1
    have f0 := hF8.cell 0
    have f1 := hF8.cell 1
    have f2 := hF8.frozen 0
    have f3 := hF8.frozen 1
    have hlt := hF8.lt
    have hltA := hA8.lt
    have hlN8 := hN8.lt
    clear n0 n1
    have n0 := hN8.cell 0
    have n1 := hN8.cell 1
    simp at a0 a1 f0 f1 n0 n1
    clear hA7 hF7 hNt hr7 hbw7 hb8
    have HNZ := hide (@noteF_zero (s : Int) cs)
    generalize noteF (s : Int) cs = NF at *
    obtain ⟨nx, ny⟩ := NF
    simp only at HNZ
    by_cases hx : nx = 0
    case neg =>
      have HE := hide (HOWN1.out hx)
      have hcb : (nx == 0) = false := beq_eq_false_iff_ne.2 hx
      have hcb2 : (nx != 0) = true := by simp [hx]
      clear HOWN1 HOK1 HNZ
      unfold fltC
      go_wp2_with fail
      go_region
      all_goals
        go_wp2_with fail
        exact bodyPost_ret (v := .tuple #[ntA 0 (.slice none 0 0), fltC (nx, ny)]) (by simp [results, Try.results23, go_sem, fltC, ntA, a0, a1, f0, f1, hlt, hltA]) rfl ⟨.slice none 0 0, by rw [HE.out]; rfl, by rw [HE.out]; exact RdC.nil _, by go_grown, New.nil _⟩
    subst hx
    have hny : ny = 0 := by have := (HNZ.out rfl).1; simpa using this
    subst hny
    have HE := hide (HOK1.out rfl)
    clear HOWN1 HOK1 HNZ
    unfold fltC
    go_wp2_with fail
    exact bodyPost_ret (v := .tuple #[ntA s (.slice vo5 cs.length vc5), fltC (0, 0)]) (by simp [results, Try.results23, go_sem, fltC, ntA, a0, a1, f0, f1, hlt, hltA]) rfl ⟨.slice vo5 cs.length vc5, by rw [HE.out], by
      rw [HE.out]
      exact ((((hr8.setNew hnn5 (by simp only; omega) _).setNew hnn5 (by simp only; omega) _).setNew hnn5 (by simp only; omega) _).setNew hnn5 (by simp only; omega) _).alloc _, by go_grown, hnn5.mono (by omega)⟩

end Go.Proofs.Ytdodajalejfbiad

/-
  The walks over the document's bytes of cells: CellBytes.
-/
namespace Go.Proofs.Ytdodajalejfbiad
open Go.RowKit

theorem WrittenS_own (s : ByteArray) (w : World) (hs : s.data.toList.length ≤ 1000000000) :
    Calls Try.prog 103 #[.string s] w fun e w' => ∃ v', e = .returned v' ∧ w'.ownsRow w.heap.size 5 1 v' (txB s).length (bc (txB s)) ∧ Below w.heap.size w w' := by
  have h := Written_own s.data.toList w hs
  rw [ba_data] at h
  exact h

theorem owns_base' {w : World} {base base' : Nat} {e : TypeId} {size : Nat} {v : Value} {n : Nat} {xs : List Value} (h : w.ownsRow base' e size v n xs) (hb : base ≤ base') : w.ownsRow base e size v n xs := by
  refine ⟨h.1, ?_⟩
  rcases h.2 with hn | ⟨g, cap, cur, hv, hg, r⟩
  · exact .inl hn
  · exact .inr ⟨g, cap, cur, hv, Nat.le_trans hb hg, r⟩

theorem txB_len (s : ByteArray) : (txB s).length ≤ 10 + s.data.toList.length := by
  unfold txB
  rw [List.length_append]
  have := encN_length s.data.toList.length
  omega

set_option maxRecDepth 100000 in
set_option maxHeartbeats 1000000 in
theorem CellBytes_any (c : Cl) (w : World) (hc : codeC c = 0) :
    Calls Try.prog 74 #[cA c] w fun e w' => ∃ v', e = .returned v' ∧ Rd w' v' (bc (cellB c)) ∧ Below w.heap.size w w' ∧ New w.heap.size v' := by
  obtain ⟨_, h1, h2, h3, h4, h5⟩ := codeC_parts hc
  have l1 := txB_len c.row
  have l2 := txB_len c.col
  have l3 := txB_len c.val
  obtain ⟨m, hm⟩ := Int.eq_ofNat_of_zero_le h4
  have l4 := encN_length m
  have HM : Hid (c.time.toNat = m) := hide (by rw [hm]; simp)
  have HMT := hide hm
  have hm9 : (m : Int) ≤ 1000000000 := by omega
  have hgn : c.gone = true ∧ encN (goneN c) = [UInt8.ofNat 1] ∨ c.gone = false ∧ encN (goneN c) = [UInt8.ofNat 0] := by unfold goneN; cases c.gone <;> simp <;> rfl
  have HEE : Hid (cellB c = txB c.row ++ (txB c.col ++ (encN c.time.toNat ++ (encN (goneN c) ++ txB c.val)))) := hide rfl
  clear hm hc h4 h5
  unfold cA
  go_enter Try.func74, Try.ntmps74
  go_wp2_with fail
  have hB0 : Bk (w.alloc (.cells #[.string c.row, .string c.col, .int .i64 c.time, .bool c.gone, .string c.val] 91)) w.heap.size 91 (ca c) := Bk.new _ _ _
  have hb0 : Below w.heap.size w (w.alloc (.cells #[.string c.row, .string c.col, .int .i64 c.time, .bool c.gone, .string c.val] 91)) := below_alloc' _ _
  have hz0 : (w.alloc (.cells #[.string c.row, .string c.col, .int .i64 c.time, .bool c.gone, .string c.val] 91)).heap.size = w.heap.size + 1 := by simp
  generalize w.alloc (.cells #[.string c.row, .string c.col, .int .i64 c.time, .bool c.gone, .string c.val] 91) = wA at *
  have hkeep : ∀ W, Below wA.heap.size wA W → W.cell? ⟨w.heap.size, 0, none⟩ = some (.string c.row) ∧ W.cell? ⟨w.heap.size, 1, none⟩ = some (.string c.col) ∧ W.cell? ⟨w.heap.size, 2, none⟩ = some (.int .i64 c.time) ∧ W.cell? ⟨w.heap.size, 3, none⟩ = some (.bool c.gone) ∧ W.cell? ⟨w.heap.size, 4, none⟩ = some (.string c.val) := fun W h => (hB0.below h (by omega)).facts
  have HK := hide hkeep
  obtain ⟨c0, c1, c2, c3, c4⟩ := hkeep wA (Below.refl _ _)
  have hl1 : c.row.data.toList.length ≤ 1000000000 := by omega
  have hl2 : c.col.data.toList.length ≤ 1000000000 := by omega
  have hl3 : (txB c.row).length + (bc (txB c.col)).length ≤ 2000000000000 := by rw [bc_length]; omega
  clear hkeep
  go_region_held3 (fun W => W.cell? ⟨w.heap.size, 0, none⟩ = some (.string c.row) ∧ W.cell? ⟨w.heap.size, 1, none⟩ = some (.string c.col)) (exact ⟨(HK.out _ (by go_grown)).1, (HK.out _ (by go_grown)).2.1⟩) (first
    | (go_at_call 103; refine (WrittenS_own c.row _ hl1).mono ?_; rintro e w1 ⟨v1, rfl, ho1, hb1⟩; have hx1 : Below wA.heap.size wA w1 := Below.trans (by go_grown) hb1; obtain ⟨ao1, cap1, hv1⟩ := owns_shape ho1; subst hv1)
    | (go_at_call 103; refine (WrittenS_own c.col _ hl2).mono ?_; rintro e w2 ⟨v2, rfl, ho2, hb2⟩; have hx2 : Below wA.heap.size wA w2 := Below.trans (by go_grown) (hb2.mono hx1.size); have hq1 := owns_below ho1 hb2; obtain ⟨ao2, cap2, hv2⟩ := owns_shape ho2; subst hv2)
    | (have k9 := hq1; refine step_append_rd k9 (Rd.ofOwns ho2) Try.underlying42 Try.info5 rfl (by rfl) (by rfl) (by rfl) (by rfl) (bc_one _) hl3 (by decide) (by exact hx2.size) ?_; intro v3 w3 ho3 hb3 hg3; have hx3 : Below wA.heap.size wA w3 := hx2.trans hb3; rw [bc_length, ← bc_append, ← List.length_append] at ho3))
  all_goals
    have ho3' : w3.ownsRow wA.heap.size 5 1 v3 (txB c.row ++ txB c.col).length (bc (txB c.row ++ txB c.col)) := ho3
    have hz3 := hx3.size
    clear ho3 hq1 ho1 ho2 hb1 hb2 hx1 hx2 hb3 hg3
    obtain ⟨c0, c1, c2, c3, c4⟩ := HK.out w3 hx3
    have hl4 : (txB c.row ++ txB c.col).length + (bc (encN m)).length ≤ 2000000000000 := by rw [bc_length, List.length_append]; omega
    go_wp2_with fail
    rw [HMT.out]
    refine (Number_any m _ (by omega)).mono ?_
    rintro e w4 ⟨v4, rfl, hr4, hb4, _⟩
    have hx4 : Below wA.heap.size wA w4 := hx3.trans (hb4.mono hz3)
    have ho4 := owns_below ho3' hb4
    have hz4 := hx4.size
    clear ho3' c0 c1 c2 c3 c4
    obtain ⟨ao4, cap4, hv4, _, _⟩ := hr4.shape
    subst hv4
    go_upto_region 3 with (at_builtin; go_must (refine wpList_append_rd ho4 hr4 Try.underlying42 Try.info5 rfl rfl rfl rfl rfl (bc_one _) hl4 (by decide) hz4 ?_); intro v5 w5 ho5 hb5 hg5; clear hg5)
    rw [bc_length, ← bc_append, ← List.length_append] at ho5
    have hx5 := hx4.trans hb5
    have hz5 := hx5.size
    obtain ⟨c0, c1, c2, c3, c4⟩ := HK.out w5 hx5
    have hl5 : (txB c.row ++ txB c.col ++ encN m).length ≤ 1000000000000 := by simp only [List.length_append]; omega
    rcases hgn with ⟨hg, hgn⟩ | ⟨hg, hgn⟩
    · rw [hg] at c3
      have HGN := hide hgn
      clear hgn ho4 hb4 hb5
      go_upto_region 6 with (at_builtin; go_must (refine wpList_append_one ho5 Try.underlying42 Try.info5 rfl rfl rfl rfl rfl rfl hl5 (by decide) hz5 ?_); intro v6 w6 ho6 hb6 hg6; clear hg6)
      rw [bc_snoc _ 1 (by omega) 1 rfl, show (txB c.row ++ txB c.col ++ encN m).length + 1 = (txB c.row ++ txB c.col ++ encN m ++ [UInt8.ofNat 1]).length by simp only [List.length_append, List.length_singleton]] at ho6
      have hx6 := hx5.trans hb6
      have hz6 := hx6.size
      clear c0 c1 c2 c3 c4
      obtain ⟨c0, c1, c2, c3, c4⟩ := HK.out w6 hx6
      go_wp2_with fail
      refine (WrittenS_own c.val _ (by omega)).mono ?_
      rintro e w7 ⟨v7, rfl, ho7, hb7⟩
      have hx7 : Below wA.heap.size wA w7 := hx6.trans (hb7.mono hz6)
      have hq6 := owns_below ho6 hb7
      have hz7 := hx7.size
      have hl6 : (txB c.row ++ txB c.col ++ encN m ++ [UInt8.ofNat 1]).length + (bc (txB c.val)).length ≤ 2000000000000 := by rw [bc_length]; simp only [List.length_append, List.length_singleton]; omega
      obtain ⟨ao7, cap7, hv7⟩ := owns_shape ho7
      subst hv7
      go_wp2_with (at_builtin; go_must (refine wpList_append_rd hq6 (Rd.ofOwns ho7) Try.underlying42 Try.info5 rfl rfl rfl rfl rfl (bc_one _) hl6 (by decide) hz7 ?_); intro v8 w8 ho8 hb8 hg8; clear hg8)
      rw [bc_length, ← bc_append, ← List.length_append] at ho8
      go_ret
      refine ⟨v8, rfl, ?_, hb0.trans ((hx7.trans hb8).mono (by omega)), (New.owns ho8).mono (by omega)⟩
      rw [HEE.out, HM.out, HGN.out]
      have := Rd.ofOwns ho8
      simpa only [List.append_assoc] using this
    · rw [hg] at c3
      have HGN := hide hgn
      clear hgn ho4 hb4 hb5
      go_upto_region 6 with (at_builtin; go_must (refine wpList_append_one ho5 Try.underlying42 Try.info5 rfl rfl rfl rfl rfl rfl hl5 (by decide) hz5 ?_); intro v6 w6 ho6 hb6 hg6; clear hg6)
      rw [bc_snoc _ 0 (by omega) 0 rfl, show (txB c.row ++ txB c.col ++ encN m).length + 1 = (txB c.row ++ txB c.col ++ encN m ++ [UInt8.ofNat 0]).length by simp only [List.length_append, List.length_singleton]] at ho6
      have hx6 := hx5.trans hb6
      have hz6 := hx6.size
      clear c0 c1 c2 c3 c4
      obtain ⟨c0, c1, c2, c3, c4⟩ := HK.out w6 hx6
      go_wp2_with fail
      refine (WrittenS_own c.val _ (by omega)).mono ?_
      rintro e w7 ⟨v7, rfl, ho7, hb7⟩
      have hx7 : Below wA.heap.size wA w7 := hx6.trans (hb7.mono hz6)
      have hq6 := owns_below ho6 hb7
      have hz7 := hx7.size
      have hl6 : (txB c.row ++ txB c.col ++ encN m ++ [UInt8.ofNat 0]).length + (bc (txB c.val)).length ≤ 2000000000000 := by rw [bc_length]; simp only [List.length_append, List.length_singleton]; omega
      obtain ⟨ao7, cap7, hv7⟩ := owns_shape ho7
      subst hv7
      go_wp2_with (at_builtin; go_must (refine wpList_append_rd hq6 (Rd.ofOwns ho7) Try.underlying42 Try.info5 rfl rfl rfl rfl rfl (bc_one _) hl6 (by decide) hz7 ?_); intro v8 w8 ho8 hb8 hg8; clear hg8)
      rw [bc_length, ← bc_append, ← List.length_append] at ho8
      go_ret
      refine ⟨v8, rfl, ?_, hb0.trans ((hx7.trans hb8).mono (by omega)), (New.owns ho8).mono (by omega)⟩
      rw [HEE.out, HM.out, HGN.out]
      have := Rd.ofOwns ho8
      simpa only [List.append_assoc] using this

end Go.Proofs.Ytdodajalejfbiad
