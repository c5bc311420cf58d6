/-
  Texts joined: CellW8, CellW9, WalW1, WalW2, WalExt, WalW3, CellS4.
-/
import Derived.Test.YtdodajalejfbiadMWalLogs8
/-
  The walks over cell.readCell and cell.Read.
-/
namespace Go.Proofs.Ytdodajalejfbiad
open Go.RowKit

/-- Text, whatever is there: the text, whether one is, and where the reader stands then. -/
theorem Text_ex (t : TypeId) (R : Nat) (v : Value) (bs : List UInt8) (k : Nat) (w : World) (hrd : Rd w v (bc bs)) (hblk : ∀ a l c, v = .slice (some a) l c → 0 < (bc bs).length → a.block ≠ R) (hr : RdrT w t R v k) (hk : k ≤ bs.length) :
    Calls Try.prog 119 #[.pointer (some ⟨R, 0, none⟩)] w fun e w' => ∃ (s : List UInt8) (b : Bool) (m : Nat), e = .returned (.tuple #[.string ⟨s.toArray⟩, .bool b]) ∧ k + m ≤ bs.length ∧ RdrT w' t R v (k + m : Nat) ∧ w.grownBy w' (some R) ∧ (b = true → textAt (bs.drop k) = some (s, m)) ∧ (b = false → textAt (bs.drop k) = none) := by
  cases h : textAt (bs.drop k) with
  | none => exact (Text_none t R v bs k w hrd hblk hr hk h).mono fun e w' ⟨h1, h2, h3⟩ => ⟨[], false, 0, h1, by omega, h2, h3, (fun h => by cases h), fun _ => rfl⟩
  | some p =>
    obtain ⟨s, m⟩ := p
    have hl := textAt_len h
    rw [List.length_drop] at hl
    exact (Text_some t R v bs s k m w hrd hblk hr hk h).mono fun e w' ⟨h1, h2, h3⟩ => ⟨s, true, m, h1, by omega, h2, h3, (fun _ => rfl), fun h => by cases h⟩

theorem Num_ex (t : TypeId) (R : Nat) (v : Value) (bs : List UInt8) (k : Nat) (w : World) (hrd : Rd w v (bc bs)) (hr : RdrT w t R v k) (hk : k ≤ bs.length) :
    Calls Try.prog 68 #[.pointer (some ⟨R, 0, none⟩)] w fun e w' => ∃ (n : Nat) (b : Bool) (m : Nat), e = .returned (.tuple #[.int .i64 n, .bool b]) ∧ n ≤ 1000000000 ∧ k + m ≤ bs.length ∧ RdrT w' t R v (k + m : Nat) ∧ w.grownBy w' (some R) ∧ (b = true → numAt (bs.drop k) = some (n, m)) ∧ (b = false → numAt (bs.drop k) = none) := by
  refine (Num_any t R v bs k w hrd hr hk).mono ?_
  rintro e w' ⟨h1, h2, h3⟩
  cases h : numAt (bs.drop k) with
  | none =>
    rw [h] at h1 h2
    exact ⟨0, false, 0, h1, by omega, by omega, h2, h3, (fun h => by cases h), fun _ => rfl⟩
  | some p =>
    obtain ⟨n, m⟩ := p
    rw [h] at h1 h2
    have hl := numAt_len h
    rw [List.length_drop] at hl
    exact ⟨n, true, m, h1, hl.2.2, by omega, h2, h3, (fun _ => rfl), fun h => by cases h⟩

theorem RdrT.other {w : World} {t : TypeId} {R : Nat} {v : Value} {k : Int} (h : RdrT w t R v k) {p : Addr} (hp : p.block ≠ R) (u : Value) : RdrT (w.setCell p u) t R v k := by
  unfold RdrT
  rw [heap_setCell_other w p R u (fun e => hp e.symm)]
  exact h

theorem gb_setNew {a w : World} {o : Option Nat} (h : a.grownBy w o) {p : Addr} (hp : a.heap.size ≤ p.block) (u : Value) : a.grownBy (w.setCell p u) o :=
  ⟨h.os, h.tape, h.output, by rw [World.setCell]; simp [h.size], fun k hk hn => (heap_setCell_other w p k u (by omega)).trans (h.block k hk hn)⟩

/-- What readCell answers. -/
def rawPost (w w' : World) (e : Ending) (t : TypeId) (R : Nat) (v : Value) (k len : Nat) : Option (Cl × Nat) → Prop
  | none => e = .returned (.tuple #[cA zeroC, .bool false]) ∧ ∃ k' : Nat, k' ≤ len ∧ RdrT w' t R v k' ∧ w.grownBy w' (some R)
  | some (c, m) => e = .returned (.tuple #[cA c, .bool true]) ∧ RdrT w' t R v (k + m : Nat) ∧ w.grownBy w' (some R)

set_option maxRecDepth 100000 in
set_option maxHeartbeats 1000000 in
theorem readCell_any (t : TypeId) (R : Nat) (v : Value) (bs : List UInt8) (k : Nat) (w : World) (hrd : Rd w v (bc bs)) (hblk : ∀ a l c, v = .slice (some a) l c → 0 < (bc bs).length → a.block ≠ R) (hr : RdrT w t R v k) (hk : k ≤ bs.length) :
    Calls Try.prog 101 #[.pointer (some ⟨R, 0, none⟩)] w fun e w' => rawPost w w' e t R v k bs.length (rawAt (bs.drop k)) := by
  have hRlt := hr.facts.2.2.2.2
  have hrd0 := hrd.alloc (.cells #[.string ⟨#[]⟩, .string ⟨#[]⟩, .int .i64 0, .bool false, .string ⟨#[]⟩] 91)
  have hr0 : RdrT (w.alloc (.cells #[.string ⟨#[]⟩, .string ⟨#[]⟩, .int .i64 0, .bool false, .string ⟨#[]⟩] 91)) t R v k := by
    unfold RdrT
    rw [Below.heap_alloc _ _ _ hRlt]
    exact hr
  have hB0 : Bk (w.alloc (.cells #[.string ⟨#[]⟩, .string ⟨#[]⟩, .int .i64 0, .bool false, .string ⟨#[]⟩] 91)) w.heap.size 91 (ca zeroC) := Bk.new _ _ _
  have hg0 : w.grownBy (w.alloc (.cells #[.string ⟨#[]⟩, .string ⟨#[]⟩, .int .i64 0, .bool false, .string ⟨#[]⟩] 91)) (some R) := gb_alloc (gb_refl _ _) _
  go_enter Try.func101, Try.ntmps101
  go_wp2_with fail
  refine (Text_ex t R v bs k _ hrd0 hblk hr0 hk).mono ?_
  rintro e w1 ⟨s1, b1, m1, rfl, hk1, hr1, hg1, hT1, hF1⟩
  have hrd1 := hrd0.grownT hg1 hblk
  have hB1 := hB0.grown hg1 (by simp; omega)
  have hw1 := grownT_trans hg0 hg1
  clear hrd0 hr0 hB0 hg0 hg1
  go_wp2_with fail
  refine (Text_ex t R v bs (k + m1) _ hrd1 hblk hr1 hk1).mono ?_
  rintro e w2 ⟨s2, b2, m2, rfl, hk2, hr2, hg2, hT2, hF2⟩
  have hrd2 := hrd1.grownT hg2 hblk
  have hB2 := hB1.grown hg2 (by simp; omega)
  have hw2 := grownT_trans hw1 hg2
  clear hrd1 hr1 hB1 hw1 hg2
  go_wp2_with fail
  refine (Num_ex t R v bs (k + m1 + m2) _ hrd2 hr2 hk2).mono ?_
  rintro e w3 ⟨n3, b3, m3, rfl, hn3, hk3, hr3, hg3, hT3, hF3⟩
  have hrd3 := hrd2.grownT hg3 hblk
  have hB3 := hB2.grown hg3 (by simp; omega)
  have hw3 := grownT_trans hw2 hg3
  clear hrd2 hr2 hB2 hw2 hg3
  go_wp2_with fail
  refine (Num_ex t R v bs (k + m1 + m2 + m3) _ hrd3 hr3 hk3).mono ?_
  rintro e w4 ⟨n4, b4, m4, rfl, hn4, hk4, hr4, hg4, hT4, hF4⟩
  have hrd4 := hrd3.grownT hg4 hblk
  have hB4 := hB3.grown hg4 (by simp; omega)
  have hw4 := grownT_trans hw3 hg4
  clear hrd3 hr3 hB3 hw3 hg4
  go_wp2_with fail
  refine (Text_ex t R v bs (k + m1 + m2 + m3 + m4) _ hrd4 hblk hr4 hk4).mono ?_
  rintro e w5 ⟨s5, b5, m5, rfl, hk5, hr5, hg5, hT5, hF5⟩
  have hB5 := hB4.grown hg5 (by simp; omega)
  have hw5 := grownT_trans hw4 hg5
  clear hrd4 hr4 hB4 hw4 hg5 hrd hr
  simp only [← List.drop_drop] at hT2 hF2 hT3 hF3 hT4 hF4 hT5 hF5
  generalize hds : bs.drop k = ds at *
  have hT3' : b3 = true → numAt (ds.drop (m1 + m2)) = some (n3, m3) := fun h => by have := hT3 h; simpa only [List.drop_drop] using this
  have hF3' : b3 = false → numAt (ds.drop (m1 + m2)) = none := fun h => by have := hF3 h; simpa only [List.drop_drop] using this
  have hT4' : b4 = true → numAt (ds.drop (m1 + m2 + m3)) = some (n4, m4) := fun h => by have := hT4 h; simpa only [List.drop_drop] using this
  have hF4' : b4 = false → numAt (ds.drop (m1 + m2 + m3)) = none := fun h => by have := hF4 h; simpa only [List.drop_drop] using this
  have hT5' : b5 = true → textAt (ds.drop (m1 + m2 + m3 + m4)) = some (s5, m5) := fun h => by have := hT5 h; simpa only [List.drop_drop] using this
  have hF5' : b5 = false → textAt (ds.drop (m1 + m2 + m3 + m4)) = none := fun h => by have := hF5 h; simpa only [List.drop_drop] using this
  have HDS := hide hds
  clear hT3 hF3 hT4 hF4 hT5 hF5 hds
  have hc0 := hB5.cell 0
  have hc1 := hB5.cell 1
  have hc2 := hB5.cell 2
  have hc3 := hB5.cell 3
  have hc4 := hB5.cell 4
  have hfz := hB5.thaw
  obtain ⟨f0, f1, f2, f3, f4⟩ := hfz
  have hsz5 := hB5.lt
  simp [ca, zeroC] at hc0 hc1 hc2 hc3 hc4
  have hall : (rawAt ds = none ∧ (b1 = false ∨ b1 = true ∧ b2 = false ∨ b1 = true ∧ b2 = true ∧ b3 = false ∨ b1 = true ∧ b2 = true ∧ b3 = true ∧ b4 = false ∨ b1 = true ∧ b2 = true ∧ b3 = true ∧ b4 = true ∧ (1 : Int) < n4 ∨ b1 = true ∧ b2 = true ∧ b3 = true ∧ b4 = true ∧ (n4 : Int) ≤ 1 ∧ b5 = false)) ∨
      (b1 = true ∧ b2 = true ∧ b3 = true ∧ b4 = true ∧ (n4 : Int) ≤ 1 ∧ b5 = true ∧ rawAt ds = some (⟨⟨s1.toArray⟩, ⟨s2.toArray⟩, (n3 : Int), n4 == 1, ⟨s5.toArray⟩⟩, m1 + m2 + m3 + m4 + m5)) := by
    cases b1
    · exact .inl ⟨rawAt_1 (hF1 rfl), .inl rfl⟩
    · cases b2
      · exact .inl ⟨rawAt_2 (hT1 rfl) (hF2 rfl), by simp⟩
      · cases b3
        · exact .inl ⟨rawAt_3 (hT1 rfl) (hT2 rfl) (hF3' rfl), by simp⟩
        · cases b4
          · exact .inl ⟨rawAt_4 (hT1 rfl) (hT2 rfl) (hT3' rfl) (hF4' rfl), by simp⟩
          · by_cases h1 : 1 < n4
            · exact .inl ⟨rawAt_5 (hT1 rfl) (hT2 rfl) (hT3' rfl) (hT4' rfl) h1, by simp; omega⟩
            · cases b5
              · exact .inl ⟨rawAt_6 (hT1 rfl) (hT2 rfl) (hT3' rfl) (hT4' rfl) (hF5' rfl), by simp; omega⟩
              · exact .inr ⟨rfl, rfl, rfl, rfl, by omega, rfl, rawAt_ok (hT1 rfl) (hT2 rfl) (hT3' rfl) (hT4' rfl) h1 (hT5' rfl)⟩
  clear hT1 hF1 hT2 hF2 hT3' hF3' hT4' hF4' hT5' hF5'
  rcases hall with ⟨hE, h | ⟨h1, h⟩ | ⟨h1, h2, h⟩ | ⟨h1, h2, h3, h⟩ | ⟨h1, h2, h3, h4, h⟩ | ⟨h1, h2, h3, h4, h5, h⟩⟩ | ⟨h1, h2, h3, h4, h5, h6, hE⟩
  iterate 6
    · have HE := hide hE
      clear hE
      subst_vars
      go_wp2_with fail
      refine bodyPost_ret (v := .tuple #[cA zeroC, .bool false]) (by simp [results, Try.results101, go_sem, cA, zeroC, hc0, hc1, hc2, hc3, hc4]) rfl ?_
      rw [HE.out]
      refine ⟨rfl, k + m1 + m2 + m3 + m4 + m5, by omega, ?_, ?_⟩
      · exact ((((hr5.other (by simp; omega) _).other (by simp; omega) _).other (by simp; omega) _).other (by simp; omega) _).other (by simp; omega) _
      · exact gb_setNew (gb_setNew (gb_setNew (gb_setNew (gb_setNew hw5 (Nat.le_refl _) _) (Nat.le_refl _) _) (Nat.le_refl _) _) (Nat.le_refl _) _) (Nat.le_refl _) _
  · have HE := hide hE
    clear hE
    subst_vars
    go_wp2_with fail
    refine bodyPost_ret (v := .tuple #[cA ⟨⟨s1.toArray⟩, ⟨s2.toArray⟩, (n3 : Int), n4 == 1, ⟨s5.toArray⟩⟩, .bool true]) (by simp [results, Try.results101, go_sem, cA, hc0, hc1, hc2, hc3, hc4]; rw [Bool.eq_iff_iff]; simp; omega) rfl ?_
    rw [HE.out]
    have hr6 : RdrT w5 t R v (k + (m1 + m2 + m3 + m4 + m5) : Nat) := by
      rw [show k + (m1 + m2 + m3 + m4 + m5) = k + m1 + m2 + m3 + m4 + m5 by omega]
      exact hr5
    refine ⟨rfl, ?_, ?_⟩
    · exact ((((hr6.other (by simp; omega) _).other (by simp; omega) _).other (by simp; omega) _).other (by simp; omega) _).other (by simp; omega) _
    · exact gb_setNew (gb_setNew (gb_setNew (gb_setNew (gb_setNew hw5 (Nat.le_refl _) _) (Nat.le_refl _) _) (Nat.le_refl _) _) (Nat.le_refl _) _) (Nat.le_refl _) _

end Go.Proofs.Ytdodajalejfbiad

/-
  The walk over cell.Read.
-/
namespace Go.Proofs.Ytdodajalejfbiad
open Go.RowKit

theorem lenV_ownsC {w : World} {base : Nat} {e : TypeId} {v : Value} {n : Nat} {xs : List Value} (h : w.ownsRow base e 5 v n xs) : lenV v = n := lenV_owns h

set_option maxRecDepth 100000 in
set_option maxHeartbeats 1000000 in
theorem CRead_any (v : Value) (bs : List UInt8) (w : World) (hrd : Rd w v (bc bs)) :
    Calls Try.prog 69 #[v] w fun e w' => ∃ v', e = .returned (.tuple #[v', fltC (readCR bs).2]) ∧ RdC w' v' (readCR bs).1 ∧ Below w.heap.size w w' ∧ New w.heap.size v' := by
  obtain ⟨ao, cap, hv, hc1, hc2⟩ := hrd.shape
  rw [bc_length] at hc1 hv
  subst hv
  unfold maxLen at hc2
  by_cases hbig : 60000 < bs.length
  · have HE := hide (readCR_big hbig)
    go_enter Try.func69, Try.ntmps69
    go_wp2_with fail
    exact bodyPost_ret (v := .tuple #[.slice none 0 0, fltC (8, 0)]) (by simp [results, Try.results69, go_sem, fltC]) rfl ⟨.slice none 0 0, by rw [HE.out], by rw [HE.out]; exact RdC.nil _, by go_grown, New.nil _⟩
  · have HE := hide (readCR_go hbig)
    go_enter Try.func69, Try.ntmps69
    go_wp2_with fail
    refine (ReaderOf_any ao bs.length cap _).mono ?_
    rintro e w1 ⟨rfl, hb1, hz1⟩
    have hF1 : Below (w.heap.size + 1) (w.alloc (.cells #[.int .i64 0, .int .i64 0] 28)) w1 := hb1.mono (by simp)
    have hz2 : w.heap.size + 1 < w1.heap.size := by rw [hz1]; simp
    have hblk : ∀ a l c, Value.slice ao bs.length cap = .slice (some a) l c → 0 < (bc bs).length → a.block < w.heap.size := by
      intro a l c e hp
      simp only [Value.slice.injEq] at e
      obtain ⟨rfl, _, _⟩ := e
      obtain ⟨b, off, cap', hv, _, _, hb, _⟩ := hrd.pos hp
      simp only [Value.slice.injEq, Option.some.injEq] at hv
      rw [hv.1]
      exact hb
    have HB := hide hblk
    clear hblk hb1 hz1
    go_wp2_with fail
    have hR0 : RdrT (w1.alloc (.cells #[.slice ao bs.length cap, .int .i64 0] 104)) 104 w1.heap.size (.slice ao bs.length cap) (0 : Nat) := heap_alloc_new _ _
    have hF2 : Below (w.heap.size + 1) (w.alloc (.cells #[.int .i64 0, .int .i64 0] 28)) (w1.alloc (.cells #[.slice ao bs.length cap, .int .i64 0] 104)) := hF1.alloc (by omega) _
    have hz3 : w1.heap.size < (w1.alloc (.cells #[.slice ao bs.length cap, .int .i64 0] 104)).heap.size := by simp
    generalize w1.alloc (.cells #[.slice ao bs.length cap, .int .i64 0] 104) = wA at *
    generalize w1.heap.size = R at *
    clear hF1
    go_loopw [5] (fun o wr => ∃ (k f : Nat) (acc : List Cl), k ≤ bs.length ∧ rdCells (f + 1) (bs.drop k) acc = rdCells (bs.length + 1) bs [] ∧ bs.length ≤ k + f ∧ acc.length ≤ k ∧ RdrT wr 104 R (.slice ao bs.length cap) k ∧ wr.ownsRow (R + 1) 91 5 o acc.length (cc acc) ∧ Below (w.heap.size + 1) (w.alloc (.cells #[.int .i64 0, .int .i64 0] 28)) wr)
      (fun o _ => bs.length + 1 - lenV o)
    case atStart => exact ⟨0, bs.length, [], by omega, rfl, by omega, by simp, hR0, World.ownsRow_nil _ _ _ _, hF2⟩
    case round =>
      obtain ⟨k, f, acc, hk, hgo, hf, hacc, hr, hown, hbel⟩ := hrel
      have HG := hide hgo
      clear hgo hR0 hF2 hz3
      have hbf := below_first hbel
      have hrd1 := hrd.below hbf
      have hszr := hr.facts.2.2.2.2
      have hlen := lenV_owns hown
      by_cases hkl : k = bs.length
      · subst hkl
        rw [List.drop_length] at HG
        go_wp2_with fail
        refine (Done_any _ _ _ _ _ _ _ hr).mono ?_
        rintro e w2 ⟨rfl, q, rfl⟩
        obtain ⟨ao2, cap2, hv2⟩ := ownsC_shape hown
        subst hv2
        go_wp2_with fail
        have hrc : RdC (wr.drewN q) (.slice ao2 acc.length cap2) acc := RdC.ofOwns hown
        refine (CCheck_any _ acc _ hrc).mono ?_
        rintro e w3 ⟨rfl, hb3⟩
        have hbel3 : Below (w.heap.size + 1) (w.alloc (.cells #[.int .i64 0, .int .i64 0] 28)) w3 := (below_drewN hbel q).trans (hb3.mono (by show _ ≤ wr.heap.size; omega))
        have hown3 : w3.ownsRow (R + 1) 91 5 (.slice ao2 acc.length cap2) acc.length (cc acc) := owns_below (w := wr.drewN q) hown hb3
        obtain ⟨gf0, gf1, gr0, gr1, gsz⟩ := two_later hbel3
        have hbf3 := below_first hbel3
        clear hown hbel hbf hb3
        by_cases hc : (checkC acc).1 = 0
        · have hcz := checkC_zero hc
          have HM := hide (@rdCells_end f acc hc)
          rw [hcz]
          unfold fltC
          clear hcz hc
          go_wp2_with fail
          exact bodyPost_ret (v := .tuple #[.slice ao2 acc.length cap2, fltC (0, 0)]) (by simp [results, Try.results69, go_sem, fltC, gf0, gf1, gsz]) rfl ⟨_, by rw [HE.out, ← HG.out, HM.out], by rw [HE.out, ← HG.out, HM.out]; exact RdC.ofOwns ((ownsRow_setCell_below (ownsRow_setCell_below hown3 (by simp only; omega) _) (by simp only; omega) _).alloc _), by go_grown, (New.owns hown3).mono (by omega)⟩
        · have HM := hide (@rdCells_fault f acc hc)
          have hcb : ((checkC acc).1 == 0) = false := beq_eq_false_iff_ne.2 hc
          have hcb2 : ((checkC acc).1 != 0) = true := by simp [hc]
          clear hc
          generalize checkC acc = r at *
          obtain ⟨x, y⟩ := r
          simp only at hcb hcb2
          unfold fltC
          go_wp2_with fail
          go_region
          all_goals
            go_wp2_with fail
            exact bodyPost_ret (v := .tuple #[.slice none 0 0, fltC (x, y)]) (by simp [results, Try.results69, go_sem, fltC, gf0, gf1, gsz]) rfl ⟨_, by rw [HE.out, ← HG.out, HM.out], by rw [HE.out, ← HG.out, HM.out]; exact RdC.nil _, by go_grown, New.nil _⟩
      · have hkb : ((k : Int) == bs.length) = false := beq_eq_false_iff_ne.2 (by omega)
        have hne : bs.drop k ≠ [] := by intro h; have := congrArg List.length h; simp at this; omega
        have HN := hide hne
        clear hne
        go_wp2_with fail
        refine (Done_any _ _ _ _ _ _ _ hr).mono ?_
        rintro e w2 ⟨rfl, q, rfl⟩
        go_wp2_with fail
        refine (readCell_any _ R _ bs k (wr.drewN q) (hrd1.drewN q) (fun a l c e hp => by have := HB.out a l c e hp; omega) hr hk).mono ?_
        rintro e w3 hp
        have hwq : ∀ {x : World}, (wr.drewN q).grownBy x (some R) → x.ownsRow (R + 1) 91 5 u5 acc.length (cc acc) ∧ Below (w.heap.size + 1) (w.alloc (.cells #[.int .i64 0, .int .i64 0] 28)) x ∧ R < x.heap.size := fun h => ⟨owns_grown (w := wr.drewN q) hown h (by omega), (below_drewN hbel q).grown h (by show _ ≤ wr.heap.size; omega) (fun j hj => by simp at hj; omega), by have := h.size; have e : (wr.drewN q).heap.size = wr.heap.size := rfl; omega⟩
        cases hn : rawAt (bs.drop k) with
        | none =>
          rw [hn] at hp
          obtain ⟨rfl, k', _, hr3, hg3⟩ := hp
          obtain ⟨hown3, hbel3, hsz3⟩ := hwq hg3
          have HM := hide (@rdCells_bad f (bs.drop k) acc HN.out (cellAt_no hn))
          clear hn hwq hg3 hown hbel hbf
          obtain ⟨ao2, cap2, hv2⟩ := ownsC_shape hown3
          subst hv2
          obtain ⟨gf0, gf1, gr0, gr1, gsz⟩ := two_later hbel3
          have hbf3 := below_first hbel3
          unfold cA
          go_wp2_with fail
          exact bodyPost_ret (v := .tuple #[.slice none 0 0, fltC (5, acc.length)]) (by simp [results, Try.results69, go_sem, fltC, gf0, gf1, gsz]) rfl ⟨_, by rw [HE.out, ← HG.out, HM.out], by rw [HE.out, ← HG.out, HM.out]; exact RdC.nil _, by go_grown, New.nil _⟩
        | some p =>
          obtain ⟨c, m⟩ := p
          rw [hn] at hp
          obtain ⟨rfl, hr3, hg3⟩ := hp
          obtain ⟨hown3, hbel3, hsz3⟩ := hwq hg3
          have hml := rawAt_len hn
          rw [List.length_drop] at hml
          clear hwq hg3 hown hbel hbf
          obtain ⟨ao2, cap2, hv2⟩ := ownsC_shape hown3
          subst hv2
          unfold cA
          have hC4 : Bk (w3.alloc (.cells #[.string c.row, .string c.col, .int .i64 c.time, .bool c.gone, .string c.val] 91)) w3.heap.size 91 (ca c) := Bk.new _ _ _
          have hr4 : RdrT (w3.alloc (.cells #[.string c.row, .string c.col, .int .i64 c.time, .bool c.gone, .string c.val] 91)) 104 R (.slice ao bs.length cap) (k + m : Nat) := by
            unfold RdrT
            rw [Below.heap_alloc _ _ _ hsz3]
            exact hr3
          have hbel4 : Below (w.heap.size + 1) (w.alloc (.cells #[.int .i64 0, .int .i64 0] 28)) (w3.alloc (.cells #[.string c.row, .string c.col, .int .i64 c.time, .bool c.gone, .string c.val] 91)) := hbel3.alloc (by omega) _
          have hown4 := hown3.alloc (.cells #[.string c.row, .string c.col, .int .i64 c.time, .bool c.gone, .string c.val] 91)
          have hz4 : w3.heap.size < (w3.alloc (.cells #[.string c.row, .string c.col, .int .i64 c.time, .bool c.gone, .string c.val] 91)).heap.size := by simp
          go_wp2_with fail
          refine (ownCode_any c _).mono ?_
          rintro e w5 ⟨rfl, hb5⟩
          have hC5 := hC4.below hb5 hz4
          have hr5 : RdrT w5 104 R (.slice ao bs.length cap) (k + m : Nat) := by
            unfold RdrT
            rw [hb5.block _ (by omega)]
            exact hr4
          have hbel5 : Below (w.heap.size + 1) (w.alloc (.cells #[.int .i64 0, .int .i64 0] 28)) w5 := hbel4.trans (hb5.mono (by omega))
          have hown5 := owns_below hown4 hb5
          have hz5 : w3.heap.size < w5.heap.size := hC5.lt
          clear hC4 hr4 hbel4 hown4 hz4 hb5 hown3 hbel3 hr3
          obtain ⟨gf0, gf1, gr0, gr1, gsz⟩ := two_later hbel5
          have hbf5 := below_first hbel5
          obtain ⟨c0, c1, c2, c3, c4⟩ := hC5.facts
          by_cases hc : codeC c = 0
          · have HM := hide (@rdCells_step f (bs.drop k) acc c m HN.out (cellAt_ok hn hc))
            rw [hc]
            clear hn hc
            go_wp2_with (at_builtin; go_must (refine wpList_append_oneC (c := c) hown5 Try.underlying30 Try.info91 rfl rfl rfl rfl rfl (by omega) (by decide) (by omega) ?_); intro v6 w6 ho6 hb6 hg6)
            have hlen6 := lenV_owns ho6
            have hr6 : RdrT w6 104 R (.slice ao bs.length cap) (k + m : Nat) := by
              unfold RdrT
              rw [hb6.block _ (by omega)]
              exact hr5
            go_roundw
            case rel =>
              obtain ⟨f', rfl⟩ : ∃ f', f = f' + 1 := ⟨f - 1, by omega⟩
              refine ⟨k + m, f', acc ++ [c], by omega, ?_, by omega, by simp; omega, hr6, by simpa using ho6, hbel5.trans (hb6.mono (by omega))⟩
              rw [← HG.out, HM.out, List.drop_drop]
            case measure => rw [hlen6, hlen]; omega
          · have HM := hide (@rdCells_bad f (bs.drop k) acc HN.out (cellAt_bad hn hc))
            have hcb : (codeC c != 0) = true := by simp [hc]
            clear hn hc
            go_wp2_with fail
            exact bodyPost_ret (v := .tuple #[.slice none 0 0, fltC (5, acc.length)]) (by simp [results, Try.results69, go_sem, fltC, gf0, gf1]) rfl ⟨_, by rw [HE.out, ← HG.out, HM.out], by rw [HE.out, ← HG.out, HM.out]; exact RdC.nil _, by go_grown, New.nil _⟩

end Go.Proofs.Ytdodajalejfbiad

/-
  The walks over wal.ownFault, wal.follows and wal.Write.
-/
namespace Go.Proofs.Ytdodajalejfbiad
open Go.RowKit

/-- A note as a value. -/
def ntA (s : Int) (v : Value) : Value := .agg #[.int .i64 s, v]

set_option maxRecDepth 100000 in
set_option maxHeartbeats 1000000 in
theorem ownFault_any (s : Int) (v : Value) (cs : List Cl) (w : World) (hv : RdC w v cs) :
    Calls Try.prog 64 #[ntA s v] w fun e w' => e = .returned (fltC (noteF s cs)) ∧ Below w.heap.size w w' := by
  obtain ⟨ao, cap, hvv, hc1, hc2⟩ := hv.shape
  subst hvv
  unfold maxLen at hc2
  unfold ntA
  go_enter Try.func64, Try.ntmps64
  by_cases h1 : s < 1
  · have HE := hide (@noteF_range s cs (by omega))
    go_wp2_with fail
    exact bodyPost_ret (v := fltC (3, -1)) (by simp [results, Try.results64, go_sem, fltC]) rfl ⟨by rw [HE.out], by go_grown⟩
  by_cases h2 : 1000000000 < s
  · have HE := hide (@noteF_range s cs (by omega))
    go_wp2_with fail
    exact bodyPost_ret (v := fltC (3, -1)) (by simp [results, Try.results64, go_sem, fltC]) rfl ⟨by rw [HE.out], by go_grown⟩
  by_cases h3 : cs.length = 0
  · have HE := hide (@noteF_many s cs (by omega) (by omega))
    go_wp2_with fail
    exact bodyPost_ret (v := fltC (2, -1)) (by simp [results, Try.results64, go_sem, fltC]) rfl ⟨by rw [HE.out], by go_grown⟩
  by_cases h4 : 20 < cs.length
  · have HE := hide (@noteF_many s cs (by omega) (by omega))
    go_wp2_with fail
    exact bodyPost_ret (v := fltC (2, -1)) (by simp [results, Try.results64, go_sem, fltC]) rfl ⟨by rw [HE.out], by go_grown⟩
  have HE := hide (@noteF_cells s cs (by omega) (by omega))
  have h3b : ((cs.length : Int) == 0) = false := beq_eq_false_iff_ne.2 (by omega)
  have h4b : decide (20 < (cs.length : Int)) = false := decide_eq_false (by omega)
  go_wp2_with fail
  have hR0 : Bk ((w.alloc (.cells #[.int .i64 s, .slice ao cs.length cap] 41)).alloc (.cells #[.int .i64 0, .int .i64 0] 28)) (w.heap.size + 1) 28 #[.int .i64 0, .int .i64 0] := Bk.new2 w _ _ _
  refine (CCheck_any _ cs _ (hv.below (by go_grown))).mono ?_
  rintro e w1 ⟨rfl, hb1⟩
  have hbw1 : Below w.heap.size w w1 := Below.trans (by go_grown) (hb1.mono (by simp <;> omega))
  have hR1 := hR0.below hb1 (by simp)
  have r0 := hR1.cell 0
  have r1 := hR1.cell 1
  have r2 := hR1.frozen 0
  have r3 := hR1.frozen 1
  have hz1 := hR1.lt
  simp at r0 r1
  generalize checkC cs = CC at *
  obtain ⟨nx, ny⟩ := CC
  unfold fltC
  go_wp2_with fail
  exact bodyPost_ret (v := fltC (nx, ny)) (by simp [results, Try.results64, go_sem, fltC, r0, r1]) rfl ⟨by rw [HE.out], by go_grown⟩

set_option maxRecDepth 100000 in
set_option maxHeartbeats 400000 in
theorem follows_any (a b : Int) (u v : Value) (w : World) (ha : -4611686018427387904 ≤ a ∧ a ≤ 4611686018427387904) :
    Calls Try.prog 77 #[ntA a u, ntA b v] w fun e w' => e = .returned (.bool (follB a b)) ∧ Below w.heap.size w w' := by
  unfold ntA
  go_enter Try.func77, Try.ntmps77
  by_cases h1 : a = 0
  · subst h1
    go_wp2_with fail
    go_ret
    exact ⟨by simp [follB], by go_grown⟩
  · by_cases h2 : b = a + 1
    · subst h2
      go_wp2_with fail
      go_ret
      exact ⟨by simp [follB], by go_grown⟩
    · go_wp2_with fail
      go_ret
      exact ⟨by simp [follB], by go_grown⟩

set_option maxRecDepth 100000 in
set_option maxHeartbeats 1000000 in
theorem WWrite_any (s : Int) (v : Value) (cs : List Cl) (w : World) (hv : RdC w v cs) :
    Calls Try.prog 22 #[ntA s v] w fun e w' => ∃ v', e = .returned (.tuple #[v', fltC (writeN s cs).2]) ∧ Rd w' v' (bc (writeN s cs).1) ∧ Below w.heap.size w w' ∧ New w.heap.size v' := by
  obtain ⟨ao, cap, hvv, hc1, hc2⟩ := hv.shape
  subst hvv
  unfold maxLen at hc2
  unfold ntA
  go_enter Try.func22, Try.ntmps22
  go_wp2_with fail
  have hN0 : Bk ((w.alloc (.cells #[.int .i64 s, .slice ao cs.length cap] 41)).alloc (.cells #[.int .i64 0, .int .i64 0] 28)) w.heap.size 41 #[.int .i64 s, .slice ao cs.length cap] := (Bk.new w _ _).below (below_alloc' _ _) (by simp)
  have hR0 : Bk ((w.alloc (.cells #[.int .i64 s, .slice ao cs.length cap] 41)).alloc (.cells #[.int .i64 0, .int .i64 0] 28)) (w.heap.size + 1) 28 #[.int .i64 0, .int .i64 0] := Bk.new2 w _ _ _
  refine (ownFault_any s _ cs _ (hv.below (by go_grown))).mono ?_
  rintro e w1 ⟨rfl, hb1⟩
  have hbw1 : Below w.heap.size w w1 := Below.trans (by go_grown) (hb1.mono (by simp <;> omega))
  have hN1 := hN0.below hb1 (by simp <;> omega)
  have hR1 := hR0.below hb1 (by simp)
  have hz1 := hR1.lt
  clear hb1 hN0 hR0
  generalize hNF : noteF s cs = NF at *
  obtain ⟨nx, ny⟩ := NF
  by_cases hx : nx = 0
  case neg =>
    have HE : Hid (writeN s cs = ([], (nx, ny))) := hide (by rw [writeN, hNF, if_neg (by simpa using hx)])
    have hcb : (nx == 0) = false := beq_eq_false_iff_ne.2 hx
    have hcb2 : (nx != 0) = true := by simp [hx]
    have r0 := hR1.cell 0
    have r1 := hR1.cell 1
    have r2 := hR1.frozen 0
    have r3 := hR1.frozen 1
    simp at r0 r1
    unfold fltC
    go_wp2_with fail
    go_region
    all_goals
      go_wp2_with fail
      exact bodyPost_ret (v := .tuple #[.slice none 0 0, fltC (nx, ny)]) (by simp [results, Try.results22, go_sem, fltC, r0, r1, hz1]) rfl ⟨.slice none 0 0, by rw [HE.out], by rw [HE.out]; exact Rd.nil _, by go_grown, New.nil _⟩
  subst hx
  have hz := noteF_zero (s := s) (cs := cs) (by rw [hNF])
  have hny : ny = 0 := by have := hz.1; rw [hNF] at this; simpa using this
  subst hny
  have HE : Hid (writeN s cs = (noteB s cs, (0, 0))) := hide (by rw [writeN, hNF, if_pos rfl])
  have HW := hide (writeCR_note (s := s) (cs := cs) (by rw [hNF]))
  have HLB := hide (noteF_flat (s := s) (cs := cs) (by rw [hNF]))
  obtain ⟨m, rfl⟩ : ∃ m : Nat, s = (m : Int) := ⟨s.toNat, by omega⟩
  have hm : m ≤ 1000000000 := by omega
  have HEB : Hid (noteB (m : Int) cs = encN m ++ flatC cs) := hide (by rw [noteB]; simp)
  have n0 := hN1.cell 0
  have n1 := hN1.cell 1
  have hzn := hN1.lt
  simp at n0 n1
  clear hz hNF
  unfold fltC
  go_wp2_with fail
  have hbA := below_alloc' w1 (.cells #[.int .i64 0, .int .i64 0] 28)
  refine (CWrite_any _ cs _ ((hv.below hbw1).alloc _)).mono ?_
  rintro e w2 ⟨v2, rfl, hr2, hb2, hn2⟩
  rw [HW.out] at hr2 ⊢
  have hb12 : Below w1.heap.size w1 w2 := hbA.trans (hb2.mono (by simp))
  have hN2 := hN1.below hb12 hN1.lt
  have hR2 := hR1.below hb12 hR1.lt
  have hbw2 := hbw1.trans (hb12.mono (by omega))
  have hz2 := hR2.lt
  have q0 := hN2.cell 0
  obtain ⟨vo2, vc2, hv2, _, _⟩ := hr2.shape
  rw [bc_length] at hv2
  simp only at hv2 hr2
  subst hv2
  simp at q0
  clear hb2 hb12 hbA n0 n1 hN1 hR1
  unfold fltC
  go_upto_region 7 with fail
  have hbB := below_alloc' w2 (.cells #[.int .i64 0, .int .i64 0] 28)
  have hR3 := hR2.below hbB hz2
  have hbw3 := hbw2.trans (hbB.mono (by omega))
  have hr3 := hr2.alloc (.cells #[.int .i64 0, .int .i64 0] 28)
  have hz3 : w2.heap.size < (w2.alloc (.cells #[.int .i64 0, .int .i64 0] 28)).heap.size := by simp
  have q1 := (hN2.below hbB hN2.lt).cell 0
  simp at q1
  generalize w2.alloc (.cells #[.int .i64 0, .int .i64 0] 28) = w3 at *
  clear q0 hN2 hR2 hbB hbw2 hr2
  go_wp2_with fail
  refine (AppendNum_any _ [] m w3.heap.size _ (World.ownsRow_nil _ _ _ _) (Nat.le_refl _) (by omega) (by simp)).mono ?_
  rintro e w4 ⟨v4, rfl, ho4, hb4, _⟩
  rw [List.nil_append] at ho4
  have hr4 := hr3.below hb4
  have hR4 := hR3.below hb4 hR3.lt
  have hbw4 := hbw3.trans (hb4.mono (by omega))
  have hz4 := hb4.size
  have hl4 : (encN m).length + (bc (flatC cs)).length ≤ 2000000000000 := by
    have := encN_length m
    have := HLB.out
    rw [bc_length]
    omega
  obtain ⟨vo4, vc4, hv4⟩ := owns_shape ho4
  subst hv4
  clear q1 hr3 hR3 hbw3
  go_wp2_with (at_builtin; go_must (refine wpList_append_rd ho4 hr4 Try.underlying42 Try.info5 rfl rfl rfl rfl rfl (bc_one _) hl4 (by decide) hz4 ?_); intro v5 w5 ho5 hb5 hg5; clear hg5; have hR5 := hR4.below hb5 (by omega); have r0 := hR5.cell 0; have r1 := hR5.cell 1; have r2 := hR5.frozen 0; have r3 := hR5.frozen 1; have hz5 := hR5.lt; simp at r0 r1)
  rw [← bc_append] at ho5
  refine bodyPost_ret (v := .tuple #[v5, fltC (0, 0)]) (by simp [results, Try.results22, go_sem, fltC, r0, r1]) rfl ⟨v5, by rw [HE.out], by rw [HE.out]; show Rd _ _ (bc (noteB (m : Int) cs)); rw [HEB.out]; exact Rd.ofOwns (ownsRow_setCell_below (ownsRow_setCell_below ho5 (by simp only; omega) _) (by simp only; omega) _), ?_, (New.owns ho5).mono (by omega)⟩
  have hbw5 := hbw4.trans (hb5.mono (by omega))
  exact (hbw5.setCell (by simp only; omega) _).setCell (by simp only; omega) _

end Go.Proofs.Ytdodajalejfbiad

/-
  The walk over wal.Read.
-/
namespace Go.Proofs.Ytdodajalejfbiad
open Go.RowKit

set_option maxRecDepth 100000 in
set_option maxHeartbeats 2000000 in
theorem WRead_any (v : Value) (bs : List UInt8) (w : World) (hrd : Rd w v (bc bs)) :
    Calls Try.prog 23 #[v] w fun e w' => ∃ v', e = .returned (.tuple #[ntA (readN bs).1.seq v', fltC (readN bs).2]) ∧ RdC w' v' (readN bs).1.cells ∧ Below w.heap.size w w' ∧ New w.heap.size v' := by
  obtain ⟨ao, cap, hvv, hc1, hc2⟩ := hrd.shape
  rw [bc_length] at hc1 hvv
  subst hvv
  unfold maxLen at hc2
  go_enter Try.func23, Try.ntmps23
  by_cases hbig : 60000 < bs.length
  · have HE := hide (readN_big hbig)
    go_wp2_with fail
    exact bodyPost_ret (v := .tuple #[ntA 0 (.slice none 0 0), fltC (8, 0)]) (by simp [results, Try.results23, go_sem, fltC, ntA]) rfl ⟨.slice none 0 0, by rw [HE.out]; rfl, by rw [HE.out]; exact RdC.nil _, by go_grown, New.nil _⟩
  have hA0 : Bk ((w.alloc (.cells #[.int .i64 0, .slice none 0 0] 41)).alloc (.cells #[.int .i64 0, .int .i64 0] 28)) w.heap.size 41 #[.int .i64 0, .slice none 0 0] := (Bk.new w _ _).below (below_alloc' _ _) (by simp)
  have hF0 : Bk ((w.alloc (.cells #[.int .i64 0, .slice none 0 0] 41)).alloc (.cells #[.int .i64 0, .int .i64 0] 28)) (w.heap.size + 1) 28 #[.int .i64 0, .int .i64 0] := Bk.new2 w _ _ _
  go_wp2_with fail
  refine (ReaderOf_any ao bs.length cap _).mono ?_
  rintro e w1 ⟨rfl, hb1, hz1⟩
  have hA1 := hA0.below hb1 (by simp <;> omega)
  have hF1 := hF0.below hb1 (by simp)
  have hbw1 : Below w.heap.size w w1 := Below.trans (by go_grown) (hb1.mono (by simp <;> omega))
  have hzz : w1.heap.size = w.heap.size + 3 := by rw [hz1]; simp
  clear hA0 hF0 hb1 hz1
  have hblk : ∀ a l c, Value.slice ao bs.length cap = .slice (some a) l c → 0 < (bc bs).length → a.block < w.heap.size := by
    intro a l c e hp
    simp only [Value.slice.injEq] at e
    obtain ⟨rfl, _, _⟩ := e
    obtain ⟨b, off, cap', hv, _, _, hb, _⟩ := hrd.pos hp
    simp only [Value.slice.injEq, Option.some.injEq] at hv
    rw [hv.1]
    exact hb
  have HBLK := hide hblk
  clear hblk
  have hbA := below_alloc' w1 (.cells #[.slice ao bs.length cap, .int .i64 0] 104)
  have hR : RdrT (w1.alloc (.cells #[.slice ao bs.length cap, .int .i64 0] 104)) 104 w1.heap.size (.slice ao bs.length cap) (0 : Nat) := heap_alloc_new _ _
  have hA2 := hA1.below hbA hA1.lt
  have hF2 := hF1.below hbA hF1.lt
  have hrd2 := (hrd.below hbw1).below hbA
  have hbw2 := hbw1.trans (hbA.mono (by omega))
  have hz2 : (w1.alloc (.cells #[.slice ao bs.length cap, .int .i64 0] 104)).heap.size = w.heap.size + 4 := by simp [hzz]
  clear hA1 hF1 hbA hbw1
  go_upto_region 4 with fail
  generalize w1.alloc (.cells #[.slice ao bs.length cap, .int .i64 0] 104) = w2 at *
  have hRz : w1.heap.size = w.heap.size + 3 := hzz
  generalize w1.heap.size = R at *
  subst hRz
  clear hzz
  go_wp2_with fail
  refine (Num_any _ (w.heap.size + 3) _ bs 0 _ hrd2 hR (by omega)).mono ?_
  rintro e w3 ⟨rfl, hR3, hg3⟩
  rw [List.drop_zero] at hR3 ⊢
  have hA3 := hA2.grown hg3 (by simp)
  have hF3 := hF2.grown hg3 (by simp)
  have hbw3 := hbw2.grown hg3 (by omega) (fun k hk => by simp at hk; omega)
  have hz3 := hg3.size
  clear hA2 hF2 hbw2 hR hg3 hrd2
  cases hn : numAt bs with
  | none =>
    have HE := hide (readN_form hbig hn)
    have a0 := hA3.cell 0
    have a1 := hA3.cell 1
    have a2 := hA3.frozen 0
    have a3 := hA3.frozen 1
    have f0 := hF3.cell 0
    have f1 := hF3.cell 1
    have f2 := hF3.frozen 0
    have f3 := hF3.frozen 1
    have hlt := hF3.lt
    have hltA := hA3.lt
    simp at a0 a1 f0 f1
    clear hn hR3
    unfold numVC
    go_wp2_with fail
    exact bodyPost_ret (v := .tuple #[ntA 0 (.slice none 0 0), fltC (5, -1)]) (by simp [results, Try.results23, go_sem, fltC, ntA, a0, a1, f0, f1]) rfl ⟨.slice none 0 0, by rw [HE.out]; rfl, by rw [HE.out]; exact RdC.nil _, by go_grown, New.nil _⟩
  | some p =>
    obtain ⟨s, k⟩ := p
    obtain ⟨hk0, hk1, hs⟩ := numAt_len hn
    rw [hn] at hR3
    simp only [numKC, Nat.zero_add] at hR3
    have hrd3 := hrd.below hbw3
    unfold numVC
    go_wp2_with fail
    refine (Rest_any _ (w.heap.size + 3) _ bs k _ hrd3 hR3 hk1).mono ?_
    rintro e w4 ⟨⟨vo, vc, rfl, hrr, _⟩, q, rfl⟩
    have hA4 : Bk (w3.drewN q) w.heap.size 41 #[.int .i64 0, .slice none 0 0] := hA3
    have hF4 : Bk (w3.drewN q) (w.heap.size + 1) 28 #[.int .i64 0, .int .i64 0] := hF3
    have hbw4 := below_drewN hbw3 q
    have hrr4 := hrr.drewN q
    have hz4 : w2.heap.size ≤ (w3.drewN q).heap.size := hz3
    clear hA3 hF3 hrr hR3 hrd3 hbw3 hz3
    generalize w3.drewN q = w4 at *
    clear hrd
    go_wp2_with fail
    refine (CRead_any _ (bs.drop k) _ (by rw [show bs.length - k = (bs.drop k).length by simp] at hrr4; simpa using hrr4)).mono ?_
    rintro e w5 ⟨v5, rfl, hr5, hb5, hn5⟩
    have hA5 := hA4.below hb5 hA4.lt
    have hF5 := hF4.below hb5 hF4.lt
    have hbw5 := hbw4.trans (hb5.mono (by omega))
    have hz5 := hb5.size
    have hnn5 := hn5.mono (show w.heap.size + 4 ≤ w4.heap.size by omega)
    clear hA4 hF4 hbw4 hb5 hrr4 hn5
    have a0 := hA5.cell 0
    have a1 := hA5.cell 1
    have a2 := hA5.frozen 0
    have a3 := hA5.frozen 1
    have f0 := hF5.cell 0
    have f1 := hF5.cell 1
    have f2 := hF5.frozen 0
    have f3 := hF5.frozen 1
    have hlt := hF5.lt
    have hltA := hA5.lt
    simp at a0 a1 f0 f1
    have HOWN := hide (@readN_own bs s k hbig hn)
    have HOK := hide (@readN_ok bs s k hbig hn)
    have HCE := hide (@readN_cells bs s k hbig hn)
    have HFZ := hide (@readCR_zero (bs.drop k))
    clear hn
    generalize readCR (bs.drop k) = RC at *
    obtain ⟨cs, x, y⟩ := RC
    obtain ⟨vo5, vc5, hv5, hv51, hv52⟩ := hr5.shape
    simp only at hr5 hv5 hv51 HOWN HOK HCE HFZ ⊢
    subst hv5
    unfold maxLen at hv52
    by_cases hx : x = 0
    case neg =>
      have HE := hide (HCE.out hx)
      have hcb : (x == 0) = false := beq_eq_false_iff_ne.2 hx
      have hcb2 : (x != 0) = true := by simp [hx]
      clear HOWN HOK HCE HFZ
      unfold fltC
      go_wp2_with fail
      go_region
      all_goals
        go_wp2_with fail
        exact bodyPost_ret (v := .tuple #[ntA 0 (.slice none 0 0), fltC (x, y)]) (by simp [results, Try.results23, go_sem, fltC, ntA, a0, a1, f0, f1, hlt, hltA]) rfl ⟨.slice none 0 0, by rw [HE.out]; rfl, by rw [HE.out]; exact RdC.nil _, by go_grown, New.nil _⟩
    subst hx
    have hy : y = 0 := HFZ.out rfl
    subst hy
    have HOWN1 := hide (HOWN.out rfl)
    have HOK1 := hide (HOK.out rfl)
    clear HCE HFZ HOWN HOK
    unfold fltC
    have hb57 : Below w5.heap.size w5 ((w5.alloc (.cells #[.int .i64 0, .int .i64 0] 28)).alloc (.cells #[.int .i64 s, .slice vo5 cs.length vc5] 41)) := (below_alloc' _ _).alloc (by simp) _
    have hNt : Bk ((w5.alloc (.cells #[.int .i64 0, .int .i64 0] 28)).alloc (.cells #[.int .i64 s, .slice vo5 cs.length vc5] 41)) (w5.heap.size + 1) 41 #[.int .i64 s, .slice vo5 cs.length vc5] := Bk.new2 w5 _ _ _
    have HB57 := hide hb57
    have HNT := hide hNt
    clear hb57 hNt
    go_upto_region 11 with fail
    generalize (w5.alloc (.cells #[.int .i64 0, .int .i64 0] 28)).alloc (.cells #[.int .i64 s, .slice vo5 cs.length vc5] 41) = w7 at *
    have hb57 := HB57.out
    have hNt := HNT.out
    have hA7 := hA5.below hb57 hA5.lt
    have hF7 := hF5.below hb57 hF5.lt
    have hr7 := hr5.below hb57
    have hbw7 := hbw5.trans (hb57.mono (by omega))
    have hz7 := hb57.size
    have hlN := hNt.lt
    have n0 := hNt.cell 0
    have n1 := hNt.cell 1
    simp at n0 n1
    clear hA5 hF5 hbw5 hr5 a0 a1 a2 a3 f0 f1 f2 f3 hlt hb57 HB57 HNT
    go_wp2_with fail
    refine (ownFault_any s _ cs _ hr7).mono ?_
    rintro e w8 ⟨rfl, hb8⟩
    have hA8 := hA7.below hb8 hA7.lt
    have hF8 := hF7.below hb8 hF7.lt
    have hN8 := hNt.below hb8 hNt.lt
    have hr8 := hr7.below hb8
    have hbw8 := hbw7.trans (hb8.mono (by omega))
    have hz8 := hb8.size
    have a0 := hA8.cell 0
    have a1 := hA8.cell 1
    have a2 := hA8.frozen 0
    have a3 := hA8.frozen 1
    have f0 := hF8.cell 0
    have f1 := hF8.cell 1
    have f2 := hF8.frozen 0
    have f3 := hF8.frozen 1
    have hlt := hF8.lt
    have hltA := hA8.lt
    have hlN8 := hN8.lt
    clear n0 n1
    have n0 := hN8.cell 0
    have n1 := hN8.cell 1
    simp at a0 a1 f0 f1 n0 n1
    clear hA7 hF7 hNt hr7 hbw7 hb8
    have HNZ := hide (@noteF_zero (s : Int) cs)
    generalize noteF (s : Int) cs = NF at *
    obtain ⟨nx, ny⟩ := NF
    simp only at HNZ
    by_cases hx : nx = 0
    case neg =>
      have HE := hide (HOWN1.out hx)
      have hcb : (nx == 0) = false := beq_eq_false_iff_ne.2 hx
      have hcb2 : (nx != 0) = true := by simp [hx]
      clear HOWN1 HOK1 HNZ
      unfold fltC
      go_wp2_with fail
      go_region
      all_goals
        go_wp2_with fail
        exact bodyPost_ret (v := .tuple #[ntA 0 (.slice none 0 0), fltC (nx, ny)]) (by simp [results, Try.results23, go_sem, fltC, ntA, a0, a1, f0, f1, hlt, hltA]) rfl ⟨.slice none 0 0, by rw [HE.out]; rfl, by rw [HE.out]; exact RdC.nil _, by go_grown, New.nil _⟩
    subst hx
    have hny : ny = 0 := by have := (HNZ.out rfl).1; simpa using this
    subst hny
    have HE := hide (HOK1.out rfl)
    clear HOWN1 HOK1 HNZ
    unfold fltC
    go_wp2_with fail
    exact bodyPost_ret (v := .tuple #[ntA s (.slice vo5 cs.length vc5), fltC (0, 0)]) (by simp [results, Try.results23, go_sem, fltC, ntA, a0, a1, f0, f1, hlt, hltA]) rfl ⟨.slice vo5 cs.length vc5, by rw [HE.out], by
      rw [HE.out]
      exact ((((hr8.setNew hnn5 (by simp only; omega) _).setNew hnn5 (by simp only; omega) _).setNew hnn5 (by simp only; omega) _).setNew hnn5 (by simp only; omega) _).alloc _, by go_grown, hnn5.mono (by omega)⟩

end Go.Proofs.Ytdodajalejfbiad

/-
  Appends of notes, and what they leave as it was. Nothing of a program stands here.
-/
namespace Go.Proofs.Ytdodajalejfbiad
open Go.RowKit

theorem wpList_append_rd2E {P : Program} {w : World} {ops : Array Oper} {rest : List Oper} {o : Oper} {a : Act} {Q : Exit → Act → World → Prop} {s x : Operand} {t : TypeId} {base : Nat} {e : TypeId} {z : Value} {bytes : Nat}
    {v : Value} {n : Nat} {cs : List (Int × Value)} {vx : Value} {news : List (Int × Value)}
    (hown : w.ownsRow base e 2 v n (nn cs)) (hrd : Rd2 w vx news)
    (ht : P.underlying t = some (.slice e)) (hinf : (P.info? e).map (fun i => (i.zero, i.size, i.bytes)) = some (some z, 2, bytes)) (hzs : z.cells.size = 2)
    (hgd : o.guard = none) (ho : o.op = .call { callee := .builtin .append, args := #[s, x], argTypes := #[t, t] })
    (hs : a.eval s = v) (hx : a.eval x = vx)
    (h63 : n + news.length ≤ 1000000000) (hbytes : bytes ≤ 64) (hbase : base ≤ w.heap.size)
    (h : ∀ v' w', w'.ownsRow base e 2 v' (n + news.length) (nn (cs ++ news)) → Below base w w' → Ext w w' v v' → wpList P ops Q rest (a.put o.dst v') w') : wpList P ops Q (o :: rest) a w := by
  obtain ⟨i, hi, hz, hsize, hby⟩ := info_parts hinf
  have hlt := hown.lt
  have hbytes' : (n + news.length) * bytes ≤ 1000000000 * 64 := Nat.mul_le_mul h63 hbytes
  obtain ⟨ao, cap, hvx, h2, h3, h4, h6, h5⟩ := hrd
  cases ao with
  | none =>
    have hc := h4 rfl
    have hnews : news = [] := List.eq_nil_of_length_eq_zero (by omega)
    subst hnews
    subst hc
    refine wpList_append_own_none hgd s x t ho base e i 2 ht hi v n (nn cs) hs hown (hx.trans hvx) ?_
    exact h v w (by simpa using hown) (Below.refl _ _) (Ext.refl _ _)
  | some ad =>
    refine wpList_append_own_at w hgd s x t ho base e i z 2 bytes ht hi hz hsize hby hzs (by decide) v n (nn cs) hs hown ad news.length cap (nn news) (hx.trans hvx) (nn_length _) (h5 ad rfl) (nn_one h6) (by simp [maxLen]; omega) (by omega) hbase ?_
    intro v' w' ho' hg' _ hat
    rw [← nn_append] at ho'
    exact h v' w' ho' ((Below.refl _ _).grown hg' hbase (fun k hk => (hlt k hk).1)) ⟨hg', hat.imp id fun e k hk => by rw [e] at hk; simp at hk; omega⟩

theorem wpList_append_one2E {P : Program} {w : World} {q : Int} {u : Value} {ops : Array Oper} {rest : List Oper} {o : Oper} {a : Act} {Q : Exit → Act → World → Prop} {s x : Operand} {t : TypeId} {base : Nat} {e : TypeId} {z : Value} {bytes : Nat}
    {v : Value} {n : Nat} {cs : List (Int × Value)} (hu : u.oneCell' = true)
    (hown : w.ownsRow base e 2 v n (nn cs))
    (ht : P.underlying t = some (.slice e)) (hinf : (P.info? e).map (fun i => (i.zero, i.size, i.bytes)) = some (some z, 2, bytes)) (hzs : z.cells.size = 2)
    (hgd : o.guard = none) (ho : o.op = .call { callee := .builtin .append, args := #[s, x], argTypes := #[t, t] })
    (hs : a.eval s = v) (hx : a.eval x = .slice (some ⟨w.heap.size, 0, none⟩) 1 1)
    (h63 : n ≤ 100000000) (hbytes : bytes ≤ 64) (hbase : base ≤ w.heap.size)
    (h : ∀ v' w', w'.ownsRow base e 2 v' (n + 1) (nn (cs ++ [(q, u)])) → Below base w w' → Ext w w' v v' → wpList P ops Q rest (a.put o.dst v') w') : wpList P ops Q (o :: rest) a (w.alloc (.cells #[.int .i64 q, u] e)) := by
  refine wpList_append_rd2E (hown.alloc _) (Rd2.new _ q u _ hu) ht hinf hzs hgd ho hs hx (by simp; omega) hbytes (by simp; omega) ?_
  intro v' w' h2 h3 h4
  exact h v' w' h2 (((Below.refl _ _).alloc hbase _).trans h3) ((Ext.alloc _ _ _).trans h4)

theorem RdC.extN {w w' : World} {r r' v : Value} {cs : List Cl} (h : RdC w v cs) (he : Ext w w' r r') (ho : Off r v) : RdC w' v cs := by
  obtain ⟨ao, cap, hv, h1, h2, h3, h4⟩ := h
  refine ⟨ao, cap, hv, h1, h2, h3, fun a ha j u hu => ?_⟩
  have hc := h4 a ha j u hu
  have hlt := World.block_lt_of_cell? w _ hc
  have hb : (a.add j).block = a.block := by unfold Addr.add; split <;> rfl
  have hl := (List.getElem?_eq_some_iff.1 hu).1
  rw [cc_length] at hl
  rw [he.cell hlt (by rw [hb]; exact ho a _ _ (by rw [hv, ha]) (by omega))]
  exact hc

theorem OffC.extN {w w' : World} {r r' v : Value} {cs : List Cl} (h : RdC w v cs) (he : Ext w w' r r') (ho : Off r v) : Off r' v := by
  intro a l c hv hl
  have ho' := ho a l c hv hl
  obtain ⟨ao, cap, hv', h1, h2, h3, h4⟩ := h
  rw [hv] at hv'
  simp only [Value.slice.injEq] at hv'
  obtain ⟨rfl, rfl, rfl⟩ := hv'
  have hpos : 0 < (cc cs).length := by rw [cc_length]; omega
  have hc := h4 a rfl 0 (cc cs)[0] (by simp)
  have hlt := World.block_lt_of_cell? w _ hc
  have hb : (a.add 0).block = a.block := by unfold Addr.add; split <;> rfl
  rw [hb] at hlt
  exact he.apart hlt ho'

/-- Notes whose cells lie off a row. -/
def NtO (w : World) (r : Value) (ps : List (Int × Value)) (ns : List Nt) : Prop := NtP w ps ns ∧ ∀ p ∈ ps, Off r p.2

theorem NtO.nil (w : World) (r : Value) : NtO w r [] [] := ⟨NtP.nil w, by simp⟩
theorem NtO.ext {w w' : World} {r r' : Value} {ps : List (Int × Value)} {ns : List Nt} (h : NtO w r ps ns) (he : Ext w w' r r') : NtO w' r' ps ns := by
  obtain ⟨⟨h1, h2⟩, h4⟩ := h
  refine ⟨⟨h1, fun i p n hp hn => ⟨(h2 i p n hp hn).1, (h2 i p n hp hn).2.extN he (h4 p (List.mem_of_getElem? hp))⟩⟩, fun p hp => ?_⟩
  obtain ⟨i, hi, e⟩ := List.getElem_of_mem hp
  have hg : ps[i]? = some p := by rw [List.getElem?_eq_getElem hi, e]
  exact OffC.extN (h2 i p _ hg (List.getElem?_eq_getElem (by omega))).2 he (h4 p hp)
theorem NtO.snoc {w : World} {r : Value} {ps : List (Int × Value)} {ns : List Nt} (h : NtO w r ps ns) {u : Value} {n : Nt} (hu : RdC w u n.cells) (ho : Off r u) : NtO w r (ps ++ [(n.seq, u)]) (ns ++ [n]) :=
  ⟨h.1.snoc hu, fun x hx => (List.mem_append.1 hx).elim (h.2 x) (fun h => by simp at h; rw [h]; exact ho)⟩
theorem NtO.rd {w : World} {base : Nat} {e : TypeId} {v : Value} {n : Nat} {ps : List (Int × Value)} {ns : List Nt} (h : NtO w v ps ns) (ho : w.ownsRow base e 2 v n (nn ps)) : RdN w v ns := ⟨ps, Rd2.ofOwns ho h.1.one, h.1⟩

theorem run_slice_from2 {P : Program} {t e : TypeId} {z : Value} {bytes : Nat} (ht : P.underlying t = some (.slice e)) (he : P.elem t = e) (hinf : (P.info? e).map (fun i => (i.zero, i.size, i.bytes)) = some (some z, 2, bytes))
    (ao : Option Addr) (n cap lo : Nat) (l : Int) (hl : l = lo) (h1 : lo ≤ n) (W : World) :
    (Instr.slice t (.slice ao n cap) (some (.int .i64 l)) none none).run P W = .ok (Go.sliced ao lo n cap 2) W := by
  obtain ⟨i, hi0, _, hsize, _⟩ := info_parts hinf
  subst hl
  rw [run_slice_l (P := P) W t ao n cap (by rw [he]; exact ht) .i64 lo (by omega) (by omega)]
  simp [he, sizeOf, typeInfo, hi0, hsize, Result.andThen]

theorem run_slice_upto2 {P : Program} {t e : TypeId} {z : Value} {bytes : Nat} (ht : P.underlying t = some (.slice e)) (he : P.elem t = e) (hinf : (P.info? e).map (fun i => (i.zero, i.size, i.bytes)) = some (some z, 2, bytes))
    (ao : Option Addr) (n cap hi : Nat) (h : Int) (hh : h = hi) (h1 : hi ≤ cap) (W : World) :
    (Instr.slice t (.slice ao n cap) none (some (.int .i64 h)) none).run P W = .ok (Go.sliced ao 0 hi cap 2) W := by
  obtain ⟨i, hi0, _, hsize, _⟩ := info_parts hinf
  subst hh
  rw [run_slice_h (P := P) W t ao n cap (by rw [he]; exact ht) .i64 hi (by omega) (by omega)]
  simp [he, sizeOf, typeInfo, hi0, hsize, Result.andThen]

theorem Rd2.piece {w : World} {ao : Option Addr} {n cap lo hi : Nat} {ps : List (Int × Value)} (h : Rd2 w (.slice ao n cap) ps) (h0 : lo ≤ hi) (h1 : hi ≤ n) : Rd2 w (Go.sliced ao lo hi cap 2) ((ps.take hi).drop lo) := by
  obtain ⟨ao', cap', hv, h2, h3, h4, h6, h5⟩ := h
  simp only [Value.slice.injEq] at hv
  obtain ⟨rfl, rfl, rfl⟩ := hv
  have hl : ((ps.take hi).drop lo).length = hi - lo := by rw [List.length_drop, List.length_take]; omega
  refine ⟨_, cap - lo, by rw [hl]; rfl, by omega, by omega, ?_, fun p hp => h6 p (List.mem_of_mem_take (List.mem_of_mem_drop hp)), ?_⟩
  · intro hn
    split at hn
    · omega
    · rw [Option.map_eq_none_iff] at hn
      have := h4 hn
      omega
  · intro a ha j u hu
    have hj := (List.getElem?_eq_some_iff.1 hu).1
    rw [nn_length, hl] at hj
    split at ha
    · omega
    · obtain ⟨a0, e0, rfl⟩ := Option.map_eq_some_iff.1 ha
      rw [← nn_drop, ← nn_take, List.getElem?_drop, List.getElem?_take, if_pos (by omega)] at hu
      have h0 := h5 a0 e0 _ _ (nn_get ps 0 (by omega)).1
      rw [Nat.zero_mul] at h0
      obtain ⟨b, o, rfl⟩ := add_spot h0
      have := h5 _ e0 (lo * 2 + j) u hu
      simp only [Addr.add_lit] at this ⊢
      rw [Nat.add_assoc]
      exact this

theorem NtP.piece {w : World} {ps : List (Int × Value)} {ns : List Nt} (h : NtP w ps ns) (lo hi : Nat) : NtP w ((ps.take hi).drop lo) ((ns.take hi).drop lo) := by
  refine ⟨by rw [List.length_drop, List.length_drop, List.length_take, List.length_take, h.1], fun i p n hp hn => ?_⟩
  rw [List.getElem?_drop, List.getElem?_take] at hp hn
  split at hp
  · rename_i h9
    rw [if_pos h9] at hn
    exact h.2 _ p n hp hn
  · cases hp

theorem RdN.uptoN {w : World} {ao : Option Addr} {n cap hi : Nat} {ns : List Nt} (h : RdN w (.slice ao n cap) ns) (h1 : hi ≤ n) : RdN w (Go.sliced ao 0 hi cap 2) (ns.take hi) := by
  obtain ⟨ps, h2, h3⟩ := h
  have := h2.piece (Nat.zero_le _) h1
  have h4 := h3.piece 0 hi
  rw [List.drop_zero] at this h4
  exact ⟨_, this, h4⟩

theorem RdN.fromN {w : World} {ao : Option Addr} {n cap lo : Nat} {ns : List Nt} (h : RdN w (.slice ao n cap) ns) (h1 : lo ≤ n) : RdN w (Go.sliced ao lo n cap 2) (ns.drop lo) := by
  have hn : n = ns.length := by
    obtain ⟨ao', cap', hv, _, _⟩ := h.shape
    simp only [Value.slice.injEq] at hv
    exact hv.2.1
  obtain ⟨ps, h2, h3⟩ := h
  have := h2.piece h1 (Nat.le_refl _)
  have h4 := h3.piece lo n
  rw [show ns.take n = ns from List.take_of_length_le (by omega)] at h4
  exact ⟨_, this, h4⟩

theorem Bk.othN {w : World} {B : Nat} {t : TypeId} {xs : Array Value} (h : Bk w B t xs) {p : Addr} (hne : B ≠ p.block) (u : Value) : Bk (w.setCell p u) B t xs := by
  unfold Bk
  rw [heap_setCell_other w p B u hne]
  exact h

theorem Bk.store2 {w : World} {B : Nat} {t : TypeId} {x y : Value} (h : Bk w B t #[x, y]) (a b : Value) : Bk ((w.setCell ⟨B, 0, none⟩ a).setCell ⟨B, 1, none⟩ b) B t #[a, b] := (h.set 0 a).set 1 b

theorem Bk.store2A {w : World} {B : Nat} {t : TypeId} {x y : Value} (h : Bk w B t #[x, y]) (a b : Value) (o : Obj) : Bk (((w.setCell ⟨B, 0, none⟩ a).setCell ⟨B, 1, none⟩ b).alloc o) B t #[a, b] := (h.store2 a b).below (below_alloc' _ _) (h.store2 a b).lt

theorem no_textS (o : Option Addr) (n c : Nat) : ∀ (k : Nat) (s : ByteArray), (#[Value.slice o n c])[k]? ≠ some (Value.string s) := by
  intro k s h
  match k with
  | 0 => simp at h
  | k + 1 => simp at h

end Go.Proofs.Ytdodajalejfbiad

/-
  The walk over slices.BinarySearchFunc at cells.
-/
namespace Go.Proofs.Ytdodajalejfbiad
open Go.RowKit

/-- Is it there? -/
def fndB (o : Option Cl) (c : Cl) : Bool := match o with | none => false | some x => ordC x c == 0

set_option maxRecDepth 100000 in
set_option maxHeartbeats 1000000 in
theorem bsearch_any (v : Value) (cs : List Cl) (c : Cl) (w : World) (hv : RdC w v cs) (hp : cs.Pairwise Lt) (hl : cs.length ≤ 1000000) :
    Calls Try.prog 109 #[v, cA c, .func (.func 63) #[] #[]] w fun e w' => ∃ i : Nat, i ≤ cs.length ∧ e = .returned (.tuple #[.int .i64 i, .bool (fndB cs[i]? c)]) ∧ Below w.heap.size w w' ∧ (∀ x ∈ cs.take i, Lt x c) ∧ (∀ x ∈ cs.drop i, ¬ Lt x c) := by
  obtain ⟨ao, cap, hvv, hc1, hc2⟩ := hv.shape
  subst hvv
  unfold maxLen at hc2
  have HP := hide hp
  clear hp
  unfold cA
  go_enter Try.func109, Try.ntmps109
  go_wp2_with fail
  have hT0 : Bk (w.alloc (.cells #[.string c.row, .string c.col, .int .i64 c.time, .bool c.gone, .string c.val] 91)) w.heap.size 91 (ca c) := Bk.new _ _ _
  have hb0 := below_alloc' w (.cells #[.string c.row, .string c.col, .int .i64 c.time, .bool c.gone, .string c.val] 91)
  have hz0 : (w.alloc (.cells #[.string c.row, .string c.col, .int .i64 c.time, .bool c.gone, .string c.val] 91)).heap.size = w.heap.size + 1 := by simp
  generalize w.alloc (.cells #[.string c.row, .string c.col, .int .i64 c.time, .bool c.gone, .string c.val] 91) = w0 at *
  go_loopw [9, 10, 11] (fun iv jv _ wr => ∃ (i j : Nat), i ≤ j ∧ j ≤ cs.length ∧ iv = .int .i64 i ∧ jv = .int .i64 j ∧ Below w0.heap.size w0 wr ∧ (∀ x ∈ cs.take i, Lt x c) ∧ (∀ x ∈ cs.drop j, ¬ Lt x c))
    (fun iv jv _ _ => (intOf jv).toNat - (intOf iv).toNat)
  case atStart => exact ⟨0, cs.length, by omega, Nat.le_refl _, rfl, rfl, Below.refl _ _, by simp, by simp⟩
  case round =>
    obtain ⟨i, j, hij, hj, rfl, rfl, hbel, hlo, hhi⟩ := hrel
    have HLO := hide hlo
    have HHI := hide hhi
    clear hlo hhi
    have hzr := hbel.size
    have hbw := hb0.trans (hbel.mono (by omega))
    have hTr := hT0.below hbel hT0.lt
    by_cases hlt : i < j
    · obtain ⟨h, hh⟩ : ∃ h : Nat, h = (i + j) / 2 := ⟨_, rfl⟩
      have hh1 : i ≤ h := by omega
      have hh2 : h < j := by omega
      have hlti : (i : Int) < (j : Int) := by omega
      go_upto_region 5 with fail
      rw [show ((i : Int) + (j : Int)) / 2 = ((h : Nat) : Int) by omega]
      obtain ⟨x, hx⟩ : ∃ x, cs[h]? = some x := ⟨_, List.getElem?_eq_getElem (by omega)⟩
      obtain ⟨bb, off, rfl, hbb, hat⟩ := hv.hereD hx
      have hk1 : (0 : Int) ≤ (h : Int) := by omega
      have hk2 : (h : Int) < (cs.length : Int) := by omega
      have hkeep : ∀ W, Below wr.heap.size wr W → (W.cell? ⟨bb, (off + h * 5), none⟩ = some (.string x.row) ∧ W.cell? ⟨bb, (off + h * 5) + 1, none⟩ = some (.string x.col) ∧ W.cell? ⟨bb, (off + h * 5) + 2, none⟩ = some (.int .i64 x.time) ∧ W.cell? ⟨bb, (off + h * 5) + 3, none⟩ = some (.bool x.gone) ∧ W.cell? ⟨bb, (off + h * 5) + 4, none⟩ = some (.string x.val)) ∧ (W.cell? ⟨w.heap.size, 0, none⟩ = some (.string c.row) ∧ W.cell? ⟨w.heap.size, 0 + 1, none⟩ = some (.string c.col) ∧ W.cell? ⟨w.heap.size, 0 + 2, none⟩ = some (.int .i64 c.time) ∧ W.cell? ⟨w.heap.size, 0 + 3, none⟩ = some (.bool c.gone) ∧ W.cell? ⟨w.heap.size, 0 + 4, none⟩ = some (.string c.val)) := fun W hW => by
        obtain ⟨c0, c1, c2, c3, c4⟩ := (hat.below hbw).below hW
        obtain ⟨d0, d1, d2, d3, d4⟩ := (hTr.below hW hTr.lt).at
        exact ⟨⟨c0, c1, c2, c3, c4⟩, d0, d1, d2, d3, d4⟩
      have HK := hide hkeep
      obtain ⟨⟨c0, c1, c2, c3, c4⟩, d0, d1, d2, d3, d4⟩ := hkeep wr (Below.refl _ _)
      have HX := hide hx
      have HH := hide hh
      clear hkeep hat hx hh
      go_region_held3 (fun W => (W.cell? ⟨bb, (off + h * 5), none⟩ = some (.string x.row) ∧ W.cell? ⟨bb, (off + h * 5) + 1, none⟩ = some (.string x.col) ∧ W.cell? ⟨bb, (off + h * 5) + 2, none⟩ = some (.int .i64 x.time) ∧ W.cell? ⟨bb, (off + h * 5) + 3, none⟩ = some (.bool x.gone) ∧ W.cell? ⟨bb, (off + h * 5) + 4, none⟩ = some (.string x.val)) ∧ (W.cell? ⟨w.heap.size, 0, none⟩ = some (.string c.row) ∧ W.cell? ⟨w.heap.size, 0 + 1, none⟩ = some (.string c.col) ∧ W.cell? ⟨w.heap.size, 0 + 2, none⟩ = some (.int .i64 c.time) ∧ W.cell? ⟨w.heap.size, 0 + 3, none⟩ = some (.bool c.gone) ∧ W.cell? ⟨w.heap.size, 0 + 4, none⟩ = some (.string c.val))) (exact HK.out _ (by go_grown)) (first
        | (go_at_call 63; refine (order_any x c _).mono ?_; rintro e w2 ⟨rfl, hb2⟩; have hb12 : Below wr.heap.size wr w2 := Below.trans (by go_grown) hb2; have hbel2 : Below w0.heap.size w0 w2 := hbel.trans (hb12.mono hzr)))
      all_goals
        by_cases ho : ordC x c < 0
        · go_wp2_with fail
          go_roundw
          case rel =>
            refine ⟨h + 1, j, by omega, hj, by go_num, rfl, hbel2, fun y hy => ?_, HHI.out⟩
            have hxc := ordC_neg.1 ho
            obtain ⟨k, hk, e⟩ := List.getElem_of_mem hy
            rw [List.length_take] at hk
            rw [List.getElem_take] at e
            by_cases hkh : k = h
            · subst hkh
              have : cs[k] = x := by have := HX.out; rw [List.getElem?_eq_getElem (by omega)] at this; exact Option.some.inj this
              rw [← e, this]
              exact hxc
            · have h1 := List.pairwise_iff_getElem.1 HP.out k h (by omega) (by omega) (by omega)
              have : cs[h] = x := by have := HX.out; rw [List.getElem?_eq_getElem (by omega)] at this; exact Option.some.inj this
              rw [this, e] at h1
              exact Lt_trans h1 hxc
          case measure => simp [intOf]; omega
        · go_wp2_with fail
          go_roundw
          case rel =>
            refine ⟨i, h, hh1, by omega, rfl, rfl, hbel2, HLO.out, fun y hy hlt9 => ?_⟩
            obtain ⟨k, hk, e⟩ := List.getElem_of_mem hy
            rw [List.length_drop] at hk
            rw [List.getElem_drop] at e
            have hxx : cs[h] = x := by have := HX.out; rw [List.getElem?_eq_getElem (by omega)] at this; exact Option.some.inj this
            by_cases hk0 : k = 0
            · subst hk0
              simp only [Nat.add_zero] at e
              rw [hxx] at e
              subst e
              exact ho (ordC_neg.2 hlt9)
            · have h1 := List.pairwise_iff_getElem.1 HP.out h (h + k) (by omega) (by omega) (by omega)
              rw [hxx, e] at h1
              exact ho (ordC_neg.2 (Lt_trans h1 hlt9))
          case measure => simp [intOf]; omega
    · have hlti : ¬ (i : Int) < (j : Int) := by omega
      have hie : i = j := by omega
      subst hie
      by_cases hin : i < cs.length
      · obtain ⟨x, hx⟩ : ∃ x, cs[i]? = some x := ⟨_, List.getElem?_eq_getElem hin⟩
        obtain ⟨bb, off, rfl, hbb, hat⟩ := hv.hereD hx
        have hk1 : (0 : Int) ≤ (i : Int) := by omega
        have hk2 : (i : Int) < (cs.length : Int) := by omega
        have hkeep : ∀ W, Below wr.heap.size wr W → (W.cell? ⟨bb, (off + i * 5), none⟩ = some (.string x.row) ∧ W.cell? ⟨bb, (off + i * 5) + 1, none⟩ = some (.string x.col) ∧ W.cell? ⟨bb, (off + i * 5) + 2, none⟩ = some (.int .i64 x.time) ∧ W.cell? ⟨bb, (off + i * 5) + 3, none⟩ = some (.bool x.gone) ∧ W.cell? ⟨bb, (off + i * 5) + 4, none⟩ = some (.string x.val)) ∧ (W.cell? ⟨w.heap.size, 0, none⟩ = some (.string c.row) ∧ W.cell? ⟨w.heap.size, 0 + 1, none⟩ = some (.string c.col) ∧ W.cell? ⟨w.heap.size, 0 + 2, none⟩ = some (.int .i64 c.time) ∧ W.cell? ⟨w.heap.size, 0 + 3, none⟩ = some (.bool c.gone) ∧ W.cell? ⟨w.heap.size, 0 + 4, none⟩ = some (.string c.val)) := fun W hW => by
          obtain ⟨c0, c1, c2, c3, c4⟩ := (hat.below hbw).below hW
          obtain ⟨d0, d1, d2, d3, d4⟩ := (hTr.below hW hTr.lt).at
          exact ⟨⟨c0, c1, c2, c3, c4⟩, d0, d1, d2, d3, d4⟩
        have HK := hide hkeep
        obtain ⟨⟨c0, c1, c2, c3, c4⟩, d0, d1, d2, d3, d4⟩ := hkeep wr (Below.refl _ _)
        have HX := hide hx
        clear hkeep hat hx
        go_upto_region 8 with fail
        go_region_held3 (fun W => (W.cell? ⟨bb, (off + i * 5), none⟩ = some (.string x.row) ∧ W.cell? ⟨bb, (off + i * 5) + 1, none⟩ = some (.string x.col) ∧ W.cell? ⟨bb, (off + i * 5) + 2, none⟩ = some (.int .i64 x.time) ∧ W.cell? ⟨bb, (off + i * 5) + 3, none⟩ = some (.bool x.gone) ∧ W.cell? ⟨bb, (off + i * 5) + 4, none⟩ = some (.string x.val)) ∧ (W.cell? ⟨w.heap.size, 0, none⟩ = some (.string c.row) ∧ W.cell? ⟨w.heap.size, 0 + 1, none⟩ = some (.string c.col) ∧ W.cell? ⟨w.heap.size, 0 + 2, none⟩ = some (.int .i64 c.time) ∧ W.cell? ⟨w.heap.size, 0 + 3, none⟩ = some (.bool c.gone) ∧ W.cell? ⟨w.heap.size, 0 + 4, none⟩ = some (.string c.val))) (exact HK.out _ (by go_grown)) (first
          | (go_at_call 63; refine (order_any x c _).mono ?_; rintro e w2 ⟨rfl, hb2⟩; have hb12 : Below wr.heap.size wr w2 := Below.trans (by go_grown) hb2; have hbw2 : Below w.heap.size w w2 := hbw.trans (hb12.mono (by omega))))
        all_goals
          go_wp2_with fail
          exact bodyPost_ret (v := .tuple #[.int .i64 i, .bool (ordC x c == 0)]) (by simp [results, Try.results109, go_sem]) rfl ⟨i, hj, by rw [HX.out]; rfl, hbw2, HLO.out, HHI.out⟩
      · have hie : i = cs.length := by omega
        subst hie
        have hlt9 : decide ((cs.length : Int) < (cs.length : Int)) = false := by simp
        go_wp2_with fail
        go_region
        all_goals
          go_wp2_with fail
          exact bodyPost_ret (v := .tuple #[.int .i64 cs.length, .bool false]) (by simp [results, Try.results109, go_sem]) rfl ⟨cs.length, Nat.le_refl _, by simp [fndB], by first | exact hbw | exact hbw.drew, HLO.out, HHI.out⟩

end Go.Proofs.Ytdodajalejfbiad

/-
  The walks over cell.merged and cell.Sort.
-/
namespace Go.Proofs.Ytdodajalejfbiad
open Go.RowKit

theorem RdL.part {w : World} {ao : Option Addr} {n cap h : Nat} {ls : List (List Cl)} (hr : RdL w (.slice ao n cap) ls) (hh : h ≤ n) :
    RdL w (Go.sliced ao 0 h cap 1) (ls.take h) ∧ RdL w (Go.sliced ao h n cap 1) (ls.drop h) := by
  obtain ⟨vs, h1, h2, h3, h4⟩ := hr
  refine ⟨⟨vs.take h, h1.upto hh, by simp [h2], fun u hu => h3 u (List.mem_of_mem_take hu), fun i u l hu hl => ?_⟩, ⟨vs.drop h, h1.from hh, by simp [h2], fun u hu => h3 u (List.mem_of_mem_drop hu), fun i u l hu hl => ?_⟩⟩
  · rw [List.getElem?_take] at hu hl
    split at hu
    · rename_i hi
      rw [if_pos hi] at hl
      exact h4 i u l hu hl
    · cases hu
  · rw [List.getElem?_drop] at hu hl
    exact h4 _ u l hu hl

theorem RdL.below {w w' : World} {v : Value} {ls : List (List Cl)} (h : RdL w v ls) (hb : Below w.heap.size w w') : RdL w' v ls := by
  obtain ⟨vs, h1, h2, h3, h4⟩ := h
  exact ⟨vs, h1.below hb, h2, h3, fun i u l hu hl => (h4 i u l hu hl).below hb⟩

theorem RdL.shape {w : World} {v : Value} {ls : List (List Cl)} (h : RdL w v ls) : ∃ ao cap, v = .slice ao ls.length cap ∧ ls.length ≤ cap ∧ cap ≤ maxLen := by
  obtain ⟨vs, h1, h2, h3, h4⟩ := h
  obtain ⟨ao, cap, hv, h5, h6⟩ := h1.shape
  rw [h2] at hv h5
  exact ⟨ao, cap, hv, h5, h6⟩


/-- The faults that Sort tells. -/
def sortF (cs : List Cl) : Int × Int := faultR (fun i => codeC (cs.getD i zeroC)) cs.length


end Go.Proofs.Ytdodajalejfbiad
