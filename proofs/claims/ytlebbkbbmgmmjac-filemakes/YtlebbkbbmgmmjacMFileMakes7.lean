/-
  Texts joined: LawNums1, LawNums, RefB, FramesRef, FileR1, FileR2, FileR3.
-/
import Derived.Test.YtlebbkbbmgmmjacMFileMakes6
import Derived.Deep.CutBlock
/-
  The law WireNums: its parts.
-/
namespace Go.Proofs.Ytlebbkbbmgmmjac
open Go.RowKit

theorem cell_below {w w' : World} {a : Addr} {v : Value} (h : w.cell? a = some v) (hb : Below w.heap.size w w') : w'.cell? a = some v :=
  (hb.cell (World.block_lt_of_cell? w _ h)).trans h

theorem flat_snoc (zs : List Int) (k : Nat) (h : k < zs.length) : flat (zs.take (k + 1)) = flat (zs.take k) ++ encN zs[k].toNat := by
  rw [List.take_succ_eq_append_getElem h]
  simp only [flat, List.flatMap_append, List.flatMap_cons, List.flatMap_nil, List.append_nil]



set_option maxRecDepth 100000 in
set_option maxHeartbeats 400000 in
/-- Where there is a fault the bytes must be none: whatever function is handed. -/
theorem bytesAs_bad (x fv : Value) (c a : Int) (w : World) (hc : c ≠ 0) (hx : Rd w x (bc [])) :
    Calls Try.prog 15 #[x, flt c a, flt c a, fv] w fun e w' => e = .returned (.bool true) ∧ Below w.heap.size w w' := by
  obtain ⟨ao, cap, hv, hc1, hc2, _⟩ := hx.open
  rw [bc_length] at hc1 hv
  subst hv
  have hcb : (c != 0) = true := by simp [hc]
  clear hc
  simp only [flt]
  go_enter Try.func15, Try.ntmps15
  go_wp2_with fail
  go_ret
  exact ⟨rfl, by go_grown⟩

end Go.Proofs.Ytlebbkbbmgmmjac

/-
  The law WireNums: its walk.
-/
namespace Go.Proofs.Ytlebbkbbmgmmjac
open Go.RowKit

/-- The fault alone. -/
def numsFlt : List Int → Nat → Int × Int
  | [], _ => (0, 0)
  | z :: zs, k => if z < 0 ∨ 1000000000 < z then (3, (k : Int)) else numsFlt zs (k + 1)

theorem numsFlt_go : ∀ (zs : List Int) (k : Nat) (acc : List UInt8), (numsGo zs k acc).2 = numsFlt zs k
  | [], _, _ => rfl
  | z :: zs, k, acc => by
    rw [numsGo, numsFlt]
    split
    · rfl
    · exact numsFlt_go zs (k + 1) _

theorem numsR_big {zs : List Int} (h : 1000 < zs.length) : numsR zs = ([], 2, 0) := by rw [numsR, if_pos h]
theorem numsR_small {zs : List Int} (h : ¬ 1000 < zs.length) : (numsR zs).2 = numsFlt zs 0 := by rw [numsR, if_neg h, numsFlt_go]
theorem numsR_ok {zs : List Int} (h : (numsR zs).2.1 = 0) : zs.length ≤ 1000 ∧ (∀ z ∈ zs, okNum z) ∧ numsR zs = (flat zs, 0, 0) := by
  by_cases hb : 1000 < zs.length
  · rw [numsR_big hb] at h; simp at h
  · unfold numsR at h ⊢
    rw [if_neg hb] at h ⊢
    have hok := numsGo_ok zs 0 [] h
    exact ⟨by omega, hok, by rw [numsGo_of zs 0 [] hok]; simp⟩

theorem numsGo_none : ∀ (zs : List Int) (k : Nat) (acc : List UInt8), (numsGo zs k acc).2.1 ≠ 0 → (numsGo zs k acc).1 = []
  | [], _, _, h => by simp [numsGo] at h
  | z :: zs, k, acc, h => by
    rw [numsGo] at h ⊢
    split at h
    · rename_i hb; rw [if_pos hb]
    · rename_i hb; rw [if_neg hb]; exact numsGo_none zs _ _ h

theorem numsR_none {zs : List Int} (h : (numsR zs).2.1 ≠ 0) : (numsR zs).1 = [] := by
  unfold numsR at h ⊢
  split at h
  · rename_i hb; rw [if_pos hb]
  · rename_i hb; rw [if_neg hb]; exact numsGo_none zs _ _ h

theorem rd_ref : ∀ (f : Nat) (bs : List UInt8) (acc : List Int), bs.length ≤ f →
    rdNums (f + 1) bs acc = if 0 ≤ (refNums (f + 1) bs acc).2 then ([], 5, (refNums (f + 1) bs acc).2) else if 1000 < (refNums (f + 1) bs acc).1.length then ([], 2, 0) else ((refNums (f + 1) bs acc).1, 0, 0)
  | f, [], acc, _ => by
    rw [refNums_end]
    by_cases h : 1000 < acc.length
    · rw [rdNums_many h]; simp [h]
    · rw [rdNums_end (by omega)]; simp [h]
  | 0, b :: bs, acc, hf => by simp at hf
  | f + 1, b :: bs, acc, hf => by
    cases hn : numAt (b :: bs) with
    | none =>
      rw [rdNums_bad (by simp) hn, refNums_bad (by simp) hn]
      simp
    | some p =>
      obtain ⟨n, k⟩ := p
      have hl := numAt_len hn
      rw [rdNums_step (by simp) hn, refNums_step (by simp) hn]
      exact rd_ref f _ _ (by rw [List.length_drop]; omega)

theorem readNums_ref {bs : List UInt8} (h : ¬ 60000 < bs.length) :
    readNumsR bs = if 0 ≤ (refNums (bs.length + 1) bs []).2 then ([], 5, (refNums (bs.length + 1) bs []).2) else if 1000 < (refNums (bs.length + 1) bs []).1.length then ([], 2, 0) else ((refNums (bs.length + 1) bs []).1, 0, 0) := by
  rw [readNumsR, if_neg h]
  exact rd_ref _ _ _ (Nat.le_refl _)

theorem readNums_big {bs : List UInt8} (h : 60000 < bs.length) : readNumsR bs = ([], 8, 0) := by rw [readNumsR, if_pos h]

theorem Rd.lt {w : World} {v : Value} {xs : List Value} (h : Rd w v xs) : ∀ a l c, v = .slice (some a) l c → 0 < xs.length → a.block < w.heap.size := by
  intro a l c e hp
  subst e
  exact h.block_lt hp

/-- A block of two numbers. -/
def Fb (w : World) (B : Nat) (c a : Int) : Prop := w.heap[B]? = some (.cells #[.int .i64 c, .int .i64 a] 26 (0, 0))
theorem Fb.facts {w : World} {B : Nat} {c a : Int} (h : Fb w B c a) : w.cell? ⟨B, 0, none⟩ = some (.int .i64 c) ∧ w.cell? ⟨B, 1, none⟩ = some (.int .i64 a) ∧ w.frozen? ⟨B, 0, none⟩ = false ∧ w.frozen? ⟨B, 1, none⟩ = false ∧ B < w.heap.size := by
  refine ⟨?_, ?_, frozen_of_row _ _ _ _ _ h, frozen_of_row _ _ _ _ _ h, (Array.getElem?_eq_some_iff.1 h).1⟩
  · rw [cell_of_row _ _ _ _ _ _ h]; rfl
  · rw [cell_of_row _ _ _ _ _ _ h]; rfl

theorem Fb.below {w w' : World} {B : Nat} {c a : Int} (h : Fb w B c a) (hb : Below w.heap.size w w') : Fb w' B c a := by
  unfold Fb
  rw [hb.block _ h.facts.2.2.2.2]
  exact h

theorem Fb.grown {w w' : World} {B R : Nat} {c a : Int} (h : Fb w B c a) (hg : w.grownBy w' (some R)) (hR : B ≠ R) : Fb w' B c a := by
  unfold Fb
  rw [hg.block _ h.facts.2.2.2.2 (by simpa using hR)]
  exact h

theorem Fb.new (w : World) (c a : Int) : Fb (w.alloc (.cells #[.int .i64 c, .int .i64 a] 26)) w.heap.size c a := heap_alloc_new _ _
theorem Fb.set {w : World} {B : Nat} {c a : Int} (h : Fb w B c a) (c' a' : Int) : Fb ((w.setCell ⟨B, 0, none⟩ (.int .i64 c')).setCell ⟨B, 1, none⟩ (.int .i64 a')) B c' a' := by
  unfold Fb
  rw [heap_setCell_same _ B 1 #[.int .i64 c', .int .i64 a] _ (.int .i64 a')]
  · rfl
  · rw [heap_setCell_same _ B 0 _ _ (.int .i64 c') h]
    rfl

theorem grown_set_alloc (w : World) (o : Obj) (B : Nat) (x y : Value) : w.grownBy (((w.setCell ⟨B, 0, none⟩ x).setCell ⟨B, 1, none⟩ y).alloc o) (some B) :=
  World.grownBy.trans (World.grownBy.trans (grown_set _ B 0 x) (grown_set _ B 1 y)) (World.grownBy_alloc _ o (some B))

theorem Fb.set_alloc {w : World} {B : Nat} {c a : Int} (h : Fb w B c a) (c' a' : Int) (o : Obj) : Fb (((w.setCell ⟨B, 0, none⟩ (.int .i64 c')).setCell ⟨B, 1, none⟩ (.int .i64 a')).alloc o) B c' a' :=
  (h.set c' a').below ((Below.refl _ _).alloc (Nat.le_refl _) o)

theorem numsFlt_end (zs : List Int) (k : Nat) (h : zs.length ≤ k) : numsFlt (zs.drop k) k = (0, 0) := by
  rw [List.drop_eq_nil_of_le h, numsFlt]

theorem numsFlt_bad (zs : List Int) (k : Nat) (h : k < zs.length) (h1 : zs[k] < 0 ∨ 1000000000 < zs[k]) : numsFlt (zs.drop k) k = (3, (k : Int)) := by
  rw [drop_cons zs k h, numsFlt, if_pos h1]

theorem numsFlt_step (zs : List Int) (k : Nat) (h : k < zs.length) (h1 : 0 ≤ zs[k]) (h2 : zs[k] ≤ 1000000000) : numsFlt (zs.drop k) k = numsFlt (zs.drop (k + 1)) (k + 1) := by
  rw [drop_cons zs k h, numsFlt, if_neg (by omega)]


end Go.Proofs.Ytlebbkbbmgmmjac

/-
  The walk over the document's comparison of bodies; a list of bodies cut.
-/
namespace Go.Proofs.Ytlebbkbbmgmmjac
open Go.RowKit

theorem RdB.alloc {w : World} {v : Value} {bb : List (List UInt8)} (h : RdB w v bb) (o : Obj) : RdB (w.alloc o) v bb := h.below ((Below.refl _ _).alloc (Nat.le_refl _) o)
theorem RdB.upto {w : World} {ao : Option Addr} {n cap hi : Nat} {bb : List (List UInt8)} (h : RdB w (.slice ao n cap) bb) (h1 : hi ≤ n) : RdB w (Go.sliced ao 0 hi cap 1) (bb.take hi) := by
  obtain ⟨vs, h2, h3, h4⟩ := h
  refine ⟨vs.take hi, h2.upto h1, by simp [h3], fun i u b hu hb => ?_⟩
  rw [List.getElem?_take] at hu hb
  split at hu
  · rename_i hi'
    rw [if_pos hi'] at hb
    exact h4 i u b hu hb
  · cases hu


set_option maxRecDepth 100000 in
set_option maxHeartbeats 400000 in
theorem ownBytesO_any (v : Value) (zs : List UInt8) (w : World) (h : Rd w v (bc zs)) (hl : zs.length ≤ 1000000000) :
    Calls Try.prog 19 #[v] w fun e w' => ∃ v', e = .returned v' ∧ w'.ownsRow w.heap.size 5 1 v' zs.length (bc zs) ∧ Below w.heap.size w w' := by
  go_enter Try.func19, Try.ntmps19
  go_wp2_with (at_builtin; go_must (refine wpList_append_rd (World.ownsRow_nil w w.heap.size 5 1) h Try.underlying24 Try.info5 rfl rfl rfl rfl rfl (bc_one _) (by rw [bc_length]; omega) (by decide) (Nat.le_refl _) ?_); intro v1 w1 ho1 hb1 hg1; clear hg1)
  go_ret
  exact ⟨v1, rfl, by simpa [bc_length] using ho1, hb1⟩

end Go.Proofs.Ytlebbkbbmgmmjac

/-
  The walks over the document's sum and frames.
-/
namespace Go.Proofs.Ytlebbkbbmgmmjac
open Go.RowKit

/-- The document's register, one bit of a byte. -/
def refBit (r x k : Nat) : Nat := if (r + x / 2 ^ k % 2) % 2 = 1 then (r / 2) ^^^ 3988292384 else r / 2
def refBits : Nat → Nat → Nat → Nat
  | 0, r, _ => r
  | j + 1, r, x => refBit (refBits j r x) x j

theorem xor_half (a b : Nat) : (a ^^^ b) / 2 = a / 2 ^^^ b / 2 := by
  have := Nat.shiftRight_xor_distrib (a := a) (b := b) (i := 1)
  simpa [Nat.shiftRight_eq_div_pow] using this

theorem xor_low (a b : Nat) : (a ^^^ b) % 2 = (a + b) % 2 := by
  have h := Nat.xor_mod_two_pow (a := a) (b := b) (n := 1)
  simp only [Nat.pow_one] at h
  rw [h]
  rcases Nat.mod_two_eq_zero_or_one a with ha | ha <;> rcases Nat.mod_two_eq_zero_or_one b with hb | hb <;> rw [ha, hb] <;> simp <;> omega

theorem refBits_eq (r x : Nat) : ∀ j, refBits j r x ^^^ (x / 2 ^ j) = crcBits j (r ^^^ x)
  | 0 => by simp [refBits, crcBits]
  | j + 1 => by
    have ih := refBits_eq r x j
    rw [refBits, crcBits, ← ih]
    generalize refBits j r x = s
    have hq : x / 2 ^ (j + 1) = x / 2 ^ j / 2 := by rw [Nat.pow_succ, Nat.div_div_eq_div_mul]
    rw [hq]
    unfold refBit crcBit
    generalize x / 2 ^ j = y
    rw [xor_low, xor_half]
    by_cases h : (s + y) % 2 = 1
    · rw [if_pos (by omega), if_pos h]
      rw [Nat.xor_assoc, Nat.xor_comm 3988292384, ← Nat.xor_assoc]
    · rw [if_neg (by omega), if_neg h]

theorem refBits_byte (r : Nat) (x : UInt8) : refBits 8 r x.toNat = crcByte r x := by
  have := refBits_eq r x.toNat 8
  have hx := x.toNat_lt
  rw [show x.toNat / 2 ^ 8 = 0 by omega, Nat.xor_zero] at this
  exact this

theorem refBits_lt {r : Nat} (x : Nat) (h : r < 4294967296) : ∀ j, refBits j r x < 4294967296
  | 0 => h
  | j + 1 => by
    have ih := refBits_lt x h j
    rw [refBits]
    unfold refBit
    split
    · exact Nat.xor_lt_two_pow (n := 32) (by omega) (by decide)
    · omega

theorem ref_cast (g x j : Nat) : ((g : Int) + (x : Int) / 2 ^ j) = ((g + x / 2 ^ j : Nat) : Int) := by
  rw [Int.natCast_add, Int.natCast_ediv, Int.natCast_pow]
  rfl

theorem ref_yes {g x j : Nat} (h : (((g : Int) + (x : Int) / 2 ^ j) % 2 == 1) = true) : refBit g x j = (g / 2) ^^^ 3988292384 := by
  rw [ref_cast, beq_iff_eq] at h
  unfold refBit
  generalize x / 2 ^ j = y at *
  rw [if_pos (by omega)]

theorem ref_no {g x j : Nat} (h : (((g : Int) + (x : Int) / 2 ^ j) % 2 == 1) = false) : refBit g x j = g / 2 := by
  rw [ref_cast, beq_eq_false_iff_ne] at h
  unfold refBit
  generalize x / 2 ^ j = y at *
  rw [if_neg (by omega)]

set_option maxRecDepth 100000 in
set_option maxHeartbeats 400000 in
theorem RefRest_any (v : Value) (bs : List UInt8) (w : World) (hrd : Rd w v (bc bs)) :
    Calls Try.prog 70 #[v] w fun e w' => e = .returned (.int .u32 (crc bs)) ∧ w' = w := by
  obtain ⟨ao, cap, hv, hc1, hc2, hcell⟩ := hrd.open
  rw [bc_length] at hc1 hv hcell
  subst hv
  unfold maxLen at hc2
  go_enter Try.func70, Try.ntmps70
  go_wp2_with fail
  go_loop [3, 4] (fun c i => ∃ k : Nat, k ≤ bs.length ∧ i = .int .i64 k ∧ c = .int .u32 (crcGo 4294967295 (bs.take k))) (fun _ i => bs.length - (intOf i).toNat)
  case atStart => exact ⟨0, by omega, rfl, rfl⟩
  case round =>
    obtain ⟨k, hk, rfl, rfl⟩ := hrel
    have hcl := crcGo_lt (bs.take k) (c := 4294967295) (by decide)
    by_cases hlt : k < bs.length
    · obtain ⟨b, off, rfl, hb, hcl1⟩ := hcell k hlt
      have hck : w.cell? ⟨b, off + k, none⟩ = some (.int .u8 (bs[k].toNat : Int)) := hcl1 k _ (by simp [bc, hlt])
      have hsn := crcGo_snoc 4294967295 bs k hlt
      rw [← refBits_byte] at hsn
      clear hcell hcl1
      have hxl := bs[k].toNat_lt
      generalize bs[k].toNat = x at *
      generalize crcGo 4294967295 (bs.take k) = c at *
      have HS := hide hsn
      clear hsn
      go_wp2_with fail
      go_loop [3, 5] (fun g i => ∃ j : Nat, j ≤ 8 ∧ i = .int .i64 j ∧ g = .int .u32 (refBits j c x)) (fun _ i => 8 - (intOf i).toNat)
      case atStart => exact ⟨0, by omega, rfl, rfl⟩
      case round =>
        obtain ⟨j, hj, rfl, rfl⟩ := hrel
        have hdl := refBits_lt x hcl j
        by_cases hj8 : j < 8
        · have hst : refBits (j + 1) c x = refBit (refBits j c x) x j := rfl
          generalize refBits j c x = g at *
          have hxp := u32_xorP (g / 2) (by omega)
          have HST := hide hst
          have HXP := hide hxp
          clear hst hxp
          go_wp2_with fail
          · go_round
            case rel => exact ⟨j + 1, by omega, by go_num, by rw [HST.out, ref_yes (by assumption), ← HXP.out]; rfl⟩
            case measure => simp [intOf]; omega
          · go_round
            case rel => exact ⟨j + 1, by omega, by go_num, by rw [HST.out, ref_no (by assumption)]; rfl⟩
            case measure => simp [intOf]; omega
        · obtain rfl : j = 8 := by omega
          go_wp2_with fail
          go_round
          case rel => exact ⟨k + 1, by omega, by go_num, by rw [HS.out]⟩
          case measure => simp [intOf]; omega
    · rw [List.take_of_length_le (by omega)] at hcl ⊢
      go_wp2_with fail
      go_ret
      refine ⟨?_, rfl⟩
      have e : (4294967295 : Int) - (crcGo 4294967295 bs : Nat) = ((crc bs : Nat) : Int) := by unfold crc; omega
      rw [← e]
      rfl

set_option maxRecDepth 100000 in
set_option maxHeartbeats 400000 in
theorem Framed_own (x : Value) (bs : List UInt8) (w : World) (hrd : Rd w x (bc bs)) (hl : bs.length ≤ 65535) :
    Calls Try.prog 45 #[x] w fun e w' => ∃ v', e = .returned v' ∧ w'.ownsRow w.heap.size 5 1 v' (framed bs).length (bc (framed bs)) ∧ Below w.heap.size w w' := by
  obtain ⟨ao, cap, hv, hc1, hc2, _⟩ := hrd.open
  rw [bc_length] at hc1 hv
  subst hv
  unfold maxLen at hc2
  go_enter Try.func45, Try.ntmps45
  have ho0 := World.ownsRow_lit (base := w.heap.size) (size := 1) (e := 5) w #[.int .u8 ((bs.length : Int) / 256), .int .u8 ((bs.length : Int) % 256)] 2 (Nat.le_refl _) (by decide) (by simp)
  go_upto_region 2 with (at_builtin; go_must (refine wpList_append_rd ho0 (hrd.alloc _) Try.underlying24 Try.info5 rfl rfl rfl rfl rfl (bc_one _) (by rw [bc_length]; omega) (by decide) (by simp) ?_); intro v1 w1 ho1 hb1 hg1; clear hg1)
  have hbw1 : Below w.heap.size w w1 := ((Below.refl _ _).alloc (Nat.le_refl _) _).trans hb1
  have hsz1 := hbw1.size
  have ho1' : w1.ownsRow w.heap.size 5 1 v1 (head2 bs.length ++ bs).length (bc (head2 bs.length ++ bs)) := by
    rw [bc_append, ← head2_cells _ hl, List.length_append, bc_length] at *
    exact ho1
  have hcrc := crc_lt (head2 bs.length ++ bs)
  have hfr : framed bs = (head2 bs.length ++ bs) ++ be4 (crc (head2 bs.length ++ bs)) := rfl
  have hl2 : (head2 bs.length ++ bs).length = bs.length + 2 := by simp [head2]
  have HF := hide hfr
  have HL2 := hide hl2
  clear hfr ho1 hb1 ho0 hrd hl2
  generalize head2 bs.length ++ bs = hd at *
  go_wp2_with fail
  refine (RefRest_any _ hd _ (Rd.ofOwns ho1')).mono ?_
  rintro e w2 ⟨rfl, rfl⟩
  generalize hS : crc hd = S at *
  have HS := hide hS
  clear hS
  have hS2 : (S : Int) ≤ 4294967295 := by omega
  go_wp2_with (at_builtin; go_must (refine wpList_append_rd (ho1'.alloc _) (Rd.lits _ _ _ (by simp)) Try.underlying24 Try.info5 rfl rfl rfl rfl rfl (by simp [Value.oneCell']) (by have := HL2.out; simp; omega) (by decide) (by simp; omega) ?_); intro v4 w4 ho4 hb4 hg4; clear hg4)
  go_ret
  refine ⟨v4, rfl, ?_, (hbw1.alloc hsz1 _).trans hb4⟩
  rw [HF.out, bc_append, ← be4_cells _ hcrc, List.length_append, be4_length]
  exact ho4

theorem Framed_any (x : Value) (bs : List UInt8) (w : World) (hrd : Rd w x (bc bs)) (hl : bs.length ≤ 65535) :
    Calls Try.prog 45 #[x] w fun e w' => ∃ v', e = .returned v' ∧ Rd w' v' (bc (framed bs)) ∧ Below w.heap.size w w' ∧ New w.heap.size v' :=
  (Framed_own x bs w hrd hl).mono fun _ _ ⟨v', h1, h2, h3⟩ => ⟨v', h1, Rd.ofOwns h2, h3, New.owns h2⟩

/-- What Unframed comes to, from what is left on. -/
def unGo : Nat → List UInt8 → List (List UInt8) → Nat → List (List UInt8) × Nat
  | 0, _, _, _ => ([], 0)
  | f + 1, bs, acc, k => match frameAt bs with
    | none => (acc, k)
    | some body => unGo f (bs.drop (body.length + 6)) (acc ++ [body]) (k + (body.length + 6))

theorem unGo_end {f k : Nat} {bs : List UInt8} {acc : List (List UInt8)} (h : frameAt bs = none) : unGo (f + 1) bs acc k = (acc, k) := by rw [unGo, h]
theorem unGo_step {f k : Nat} {bs body : List UInt8} {acc : List (List UInt8)} (h : frameAt bs = some body) : unGo (f + 1) bs acc k = unGo f (bs.drop (body.length + 6)) (acc ++ [body]) (k + (body.length + 6)) := by rw [unGo, h]
theorem unGo_more : ∀ (f k : Nat) (bs : List UInt8) (acc : List (List UInt8)), bs.length ≤ f → acc.length ≤ (unGo (f + 1) bs acc k).1.length
  | 0, k, bs, acc, h => by
    have : frameAt bs = none := frameAt_short (by omega)
    rw [unGo_end this]
    exact Nat.le_refl _
  | f + 1, k, bs, acc, h => by
    cases hn : frameAt bs with
    | none => rw [unGo_end hn]; exact Nat.le_refl _
    | some body =>
      have hl := frameAt_len hn
      rw [unGo_step hn]
      have := unGo_more f (k + (body.length + 6)) (bs.drop (body.length + 6)) (acc ++ [body]) (by rw [List.length_drop]; omega)
      simp at this
      omega

theorem open_un : ∀ (f k : Nat) (bs : List UInt8) (acc : List (List UInt8)), bs.length ≤ f → acc.length ≤ 1000 →
    openGo (f + 1) bs acc k = if 1000 < (unGo (f + 1) bs acc k).1.length then ([], 0, 2) else ((unGo (f + 1) bs acc k).1, ((unGo (f + 1) bs acc k).2 : Int), 0)
  | 0, k, bs, acc, h, ha => by
    have : frameAt bs = none := frameAt_short (by omega)
    rw [unGo_end this, openGo_end this, if_neg (by simp; omega)]
  | f + 1, k, bs, acc, h, ha => by
    cases hn : frameAt bs with
    | none => rw [unGo_end hn, openGo_end hn, if_neg (by simp; omega)]
    | some body =>
      have hl := frameAt_len hn
      by_cases hm : acc.length = 1000
      · have := unGo_more f (k + (body.length + 6)) (bs.drop (body.length + 6)) (acc ++ [body]) (by rw [List.length_drop]; omega)
        simp at this
        rw [openGo_many hn hm, unGo_step hn, if_pos (by omega)]
      · rw [openGo_step hn hm, unGo_step hn]
        exact open_un f _ _ _ (by rw [List.length_drop]; omega) (by simp; omega)

theorem framed_same {ds : List UInt8} {y0 y1 : UInt8} {n : Nat} (h0 : ds[0]? = some y0) (h1 : ds[1]? = some y1) (hn : n = y0.toNat * 256 + y1.toNat) (hl : 6 + n ≤ ds.length) :
    (framed ((ds.drop 2).take n) == ds.take (6 + n)) = decide (crc (ds.take (2 + n)) = beVal ((ds.drop (2 + n)).take 4)) := by
  have hx0 := y0.toNat_lt
  have hx1 := y1.toNat_lt
  have hbl : ((ds.drop 2).take n).length = n := by simp; omega
  have hh : head2 n ++ (ds.drop 2).take n = ds.take (2 + n) := by
    have e2 : ds.take 2 = head2 n := by
      cases ds with
      | nil => simp at h0
      | cons a r =>
        cases r with
        | nil => simp at h1
        | cons b r =>
          simp only [List.getElem?_cons_zero, List.getElem?_cons_succ, Option.some.injEq] at h0 h1
          subst h0 h1
          simp only [List.take_succ_cons, List.take_zero, head2]
          rw [show n / 256 = a.toNat by omega, show n % 256 = b.toNat by omega]
          simp
    rw [← e2, List.take_add]
  have hX : ((ds.drop (2 + n)).take 4).length = 4 := by simp; omega
  have e1 : framed ((ds.drop 2).take n) = ds.take (2 + n) ++ be4 (crc (ds.take (2 + n))) := by
    unfold framed
    rw [hbl, hh]
  have e2 : ds.take (6 + n) = ds.take (2 + n) ++ (ds.drop (2 + n)).take 4 := by
    rw [show 6 + n = (2 + n) + 4 by omega, List.take_add]
  rw [e1, e2]
  rw [Bool.eq_iff_iff, beq_iff_eq, decide_eq_true_iff, List.append_cancel_left_eq]
  constructor
  · intro h
    rw [← h, beVal_be4 _ (crc_lt _)]
  · intro h
    rw [h, be4_beVal hX]

end Go.Proofs.Ytlebbkbbmgmmjac

/-
  The walks over the document's rows of cells and bits of rows.
-/
namespace Go.Proofs.Ytlebbkbbmgmmjac
open Go.RowKit

set_option maxRecDepth 100000 in
set_option maxHeartbeats 1000000 in
theorem RowsOf_any (v : Value) (cs : List Cl) (w : World) (hv : RdC w v cs) (hl : cs.length ≤ 100000) :
    Calls Try.prog 81 #[v] w fun e w' => ∃ v', e = .returned v' ∧ w'.ownsRow w.heap.size 9 1 v' (rowsU cs).length (sc (rowsU cs)) ∧ Below w.heap.size w w' := by
  obtain ⟨ao, cap, hvv, hc1, hc2⟩ := hv.shape
  subst hvv
  unfold maxLen at hc2
  go_enter Try.func81, Try.ntmps81
  go_wp2_with fail
  go_loopw [3, 4] (fun o i wr => ∃ (k : Nat) (acc : List (List UInt8)), k ≤ cs.length ∧ i = .int .i64 k ∧ acc ++ rowsGo acc.getLast? (cs.drop k) = rowsU cs ∧ acc.length ≤ k ∧ wr.ownsRow w.heap.size 9 1 o acc.length (sc acc) ∧ Below w.heap.size w wr)
    (fun _ i _ => cs.length - (intOf i).toNat)
  case atStart => exact ⟨0, [], by omega, rfl, rfl, by simp, World.ownsRow_nil _ _ _ _, Below.refl _ _⟩
  case round =>
    obtain ⟨k, acc, hk, rfl, hgo, hacc, hown, hbel⟩ := hrel
    have HG := hide hgo
    clear hgo
    have hszr := hbel.size
    obtain ⟨ro, rcap, hrv⟩ := owns_shape hown
    subst hrv
    by_cases hlt : k < cs.length
    · obtain ⟨c, hc⟩ : ∃ c, cs[k]? = some c := ⟨_, List.getElem?_eq_getElem hlt⟩
      have hce : cs[k] = c := (List.getElem?_eq_some_iff.1 hc).2
      have hdr := drop_consC hlt
      rw [hce] at hdr
      rw [hdr] at HG
      obtain ⟨b, off, rfl, hbb, hck⟩ := hv.hereD hc
      obtain ⟨c0, c1, c2, c3, c4⟩ := hck.below hbel
      have hk1 : (0 : Int) ≤ (k : Int) := by omega
      have hk2 : (k : Int) < (cs.length : Int) := by omega
      have hla : (acc ++ [c.row.data.toList]).getLast? = some c.row.data.toList := by simp
      have HLA := hide hla
      clear hla hck hc hce hdr
      by_cases h0 : acc = []
      · subst h0
        have HM := hide (rowsGo_new (p := ([] : List (List UInt8)).getLast?) (c := c) (r := cs.drop (k + 1)) (by simp))
        simp only [List.length_nil] at hown ⊢
        go_wp2_with fail
        go_quiet (fail)
        obtain ⟨e0, e1, e2, e3, e4⟩ : (wr.drewN nq).cell? ⟨b, off + k * 5, none⟩ = some (.string c.row) ∧ True ∧ True ∧ True ∧ True := ⟨c0, trivial, trivial, trivial, trivial⟩
        have hownq : (wr.drewN nq).ownsRow w.heap.size 9 1 (.slice ro 0 rcap) 0 (sc []) := hown
        have hzq : w.heap.size ≤ (wr.drewN nq).heap.size := hszr
        go_wp2_with (at_builtin; go_must (refine wpList_append_one hownq Try.underlying89 Try.infoS9 rfl rfl rfl rfl rfl rfl (by omega) (by decide) hzq ?_); intro v6 w6 ho6 hb6 hg6)
        rw [sc_snocB] at ho6
        go_roundw
        case rel => exact ⟨k + 1, [c.row.data.toList], by omega, by go_num, by rw [← HG.out, HM.out]; rfl, by simp, by simpa using ho6, (below_drewN hbel nq).trans hb6⟩
        case measure => simp [intOf]; omega
      · obtain ⟨j, hj⟩ : ∃ j, acc.length = j + 1 := ⟨acc.length - 1, by have := List.length_pos_iff.2 h0; omega⟩
        obtain ⟨d, hd⟩ : ∃ d, acc[j]? = some d := ⟨_, List.getElem?_eq_getElem (by omega)⟩
        have hgl : acc.getLast? = some d := by rw [List.getLast?_eq_getElem?, hj]; exact hd
        obtain ⟨rb, roff, rc', hrv, _, _, hrb, hrc⟩ := (Rd.ofOwns hown).pos (by rw [sc_length]; omega)
        rw [sc_length] at hrv
        simp only [Value.slice.injEq, true_and] at hrv
        obtain ⟨rfl, rfl⟩ := hrv
        have hd0 : wr.cell? ⟨rb, roff + j, none⟩ = some (.string ⟨d.toArray⟩) := hrc j _ (by simp [sc, hd])
        have hnb : ((acc.length : Int) == 0) = false := beq_eq_false_iff_ne.2 (by omega)
        have hw : IntKind.i64.wrap ((acc.length : Int) - 1) = (j : Int) := by rw [IntKind.wrap_i64]; omega
        have hj1 : (0 : Int) ≤ (j : Int) := by omega
        have hj2 : (j : Int) < (acc.length : Int) := by omega
        have HJ := hide hj
        clear hrc hj hd h0
        by_cases hq : d = c.row.data.toList
        · have hqb : (d == c.row.toList) = true := by rw [ba_list, hq]; simp
          have HM := hide (rowsGo_same (p := acc.getLast?) (c := c) (r := cs.drop (k + 1)) (by rw [hgl, hq]))
          clear hgl hq
          go_wp2_with fail
          go_quiet (fail)
          go_wp2_with fail
          go_roundw
          case rel => exact ⟨k + 1, acc, by omega, by go_num, by rw [← HG.out, HM.out], by omega, hown, below_drewN hbel nq⟩
          case measure => simp [intOf]; omega
        · have hqb : (d == c.row.toList) = false := by rw [ba_list]; exact beq_eq_false_iff_ne.2 hq
          have HM := hide (rowsGo_new (p := acc.getLast?) (c := c) (r := cs.drop (k + 1)) (by rw [hgl]; simpa using hq))
          clear hgl hq
          go_wp2_with fail
          go_quiet (fail)
          obtain ⟨e0, e1⟩ : (wr.drewN nq).cell? ⟨b, off + k * 5, none⟩ = some (.string c.row) ∧ True := ⟨c0, trivial⟩
          have hownq : (wr.drewN nq).ownsRow w.heap.size 9 1 (.slice (some ⟨rb, roff, none⟩) acc.length rcap) acc.length (sc acc) := hown
          have hzq : w.heap.size ≤ (wr.drewN nq).heap.size := hszr
          go_wp2_with (at_builtin; go_must (refine wpList_append_one hownq Try.underlying89 Try.infoS9 rfl rfl rfl rfl rfl rfl (by omega) (by decide) hzq ?_); intro v6 w6 ho6 hb6 hg6)
          rw [sc_snocB] at ho6
          go_roundw
          case rel => exact ⟨k + 1, acc ++ [c.row.data.toList], by omega, by go_num, by rw [← HG.out, HM.out, HLA.out]; simp, by simp; omega, by simpa using ho6, (below_drewN hbel nq).trans hb6⟩
          case measure => simp [intOf]; omega
    · rw [List.drop_eq_nil_of_le (by omega)] at HG
      have hru : acc = rowsU cs := by have := HG.out; simpa [rowsGo] using this
      go_wp2_with fail
      go_ret
      exact ⟨_, rfl, by rw [← hru]; exact hown, hbel⟩

end Go.Proofs.Ytlebbkbbmgmmjac

/-
  The walks over the document's bits of rows.
-/
namespace Go.Proofs.Ytlebbkbbmgmmjac
open Go.RowKit

set_option maxRecDepth 100000 in
set_option maxHeartbeats 1000000 in
theorem Bits_any (row : ByteArray) (m : Nat) (w : World) (hm : 0 < m) (hm2 : m ≤ 1000000) (hl : row.size ≤ 9223372036854775807) :
    Calls Try.prog 61 #[.string row, .int .i64 (8 * (m : Int))] w fun e w' => ∃ v', e = .returned v' ∧ Rd w' v' (ic [(plc row.data.toList m 0 : Int), (plc row.data.toList m 1 : Int), (plc row.data.toList m 2 : Int)]) ∧ Below w.heap.size w w' ∧ New w.heap.size v' := by
  obtain ⟨vo, vc, W, hcv, hW, hbW, hzW⟩ := conv_rd (P := Try.prog) Try.underlying9 Try.underlying24 Try.underlying5 row w hl
  have p0 := plc_int row.data.toList m 0
  have p1 := plc_int row.data.toList m 1
  have p2 := plc_int row.data.toList m 2
  clear hzW
  go_enter Try.func61, Try.ntmps61
  go_wp2_with fail
  refine (RefRest_any _ row.data.toList _ hW).mono ?_
  rintro e w1 ⟨rfl, rfl⟩
  have hcl := crc_lt row.data.toList
  generalize hRw : row.data.toList = R at *
  have HRW := hide hRw
  clear hRw hcv
  have HP0 := hide p0
  have HP1 := hide p1
  have HP2 := hide p2
  clear p0 p1 p2
  have l0 := plc_lt R 0 hm
  have l1 := plc_lt R 1 hm
  have l2 := plc_lt R 2 hm
  generalize hq0 : plc R m 0 = q0 at *
  generalize hq1 : plc R m 1 = q1 at *
  generalize hq2 : plc R m 2 = q2 at *
  have HQ0 := hide hq0
  have HQ1 := hide hq1
  have HQ2 := hide hq2
  clear hq0 hq1 hq2
  have W0 : Hid (wrap64 (q0 : Int) = (q0 : Int)) := hide (by unfold wrap64; omega)
  have W1 : Hid (wrap64 (q1 : Int) = (q1 : Int)) := hide (by unfold wrap64; omega)
  have W2 : Hid (wrap64 (q2 : Int) = (q2 : Int)) := hide (by unfold wrap64; omega)
  generalize crc R = S at *
  have E0 : Hid ((S : Int) % 65536 % (8 * (m : Int)) = (q0 : Int)) := hide (by have := HP0.out; simpa using this)
  have E1 : Hid (((S : Int) % 65536 + (S : Int) / 65536) % (8 * (m : Int)) = (q1 : Int)) := hide (by have := HP1.out; simpa using this)
  have E2 : Hid (((S : Int) % 65536 + 2 * ((S : Int) / 65536)) % (8 * (m : Int)) = (q2 : Int)) := hide (by have := HP2.out; simpa using this)
  clear HP0 HP1 HP2
  have hS1 : (0 : Int) ≤ (S : Int) % 65536 ∧ (S : Int) % 65536 < 65536 := by omega
  have hS2 : (0 : Int) ≤ (S : Int) / 65536 ∧ (S : Int) / 65536 < 65536 := by omega
  have hm8 : (0 : Int) < 8 * (m : Int) := by omega
  go_wp2_with fail
  go_region
  all_goals
    go_wp2_with fail
    go_ret
    refine ⟨.slice (some ⟨w1.heap.size, 0, none⟩) 3 3, rfl, ?_, (hbW.alloc hbW.size _).drew, fun a l c h => by simp only [Value.slice.injEq, Option.some.injEq] at h; rw [← h.1]; exact hbW.size⟩
    rw [E0.out, E1.out, E2.out, W0.out, W1.out, W2.out, HRW.out, HQ0.out, HQ1.out, HQ2.out]
    exact Rd.lits w1 #[.int .i64 (q0 : Int), .int .i64 (q1 : Int), .int .i64 (q2 : Int)] 3 (by simp)

end Go.Proofs.Ytlebbkbbmgmmjac

/-
  The document's filter: plain mathematics, and the walk over FilterOf.
-/
namespace Go.Proofs.Ytlebbkbbmgmmjac
open Go.RowKit

/-- Bools as cells. -/
def oc (l : List Bool) : List Value := l.map Value.bool
/-- The bits of bytes, one by one. -/
def bitsL (F : List UInt8) : List Bool := (List.range (8 * F.length)).map (bitB F)
theorem oc_length (l : List Bool) : (oc l).length = l.length := by simp [oc]
theorem oc_one (l : List Bool) : ∀ u ∈ oc l, u.oneCell' = true := by
  intro u hu
  simp only [oc, List.mem_map] at hu
  obtain ⟨_, _, rfl⟩ := hu
  rfl

theorem bitsL_length (F : List UInt8) : (bitsL F).length = 8 * F.length := by simp [bitsL]

theorem bitsL_get (F : List UInt8) (p : Nat) (h : p < 8 * F.length) : (bitsL F)[p]? = some (bitB F p) := by simp [bitsL, h]

theorem bitsL_set {F : List UInt8} {p : Nat} (h : p < 8 * F.length) : (bitsL F).set p true = bitsL (setB F p) := by
  refine List.ext_getElem? fun q => ?_
  by_cases hq : q < 8 * F.length
  · rw [bitsL_get (setB F p) q (by rw [setB_len]; exact hq), bitB_set (by omega)]
    by_cases e : p = q
    · subst e
      rw [List.getElem?_set_self (by rw [bitsL_length]; exact h)]
      simp
    · rw [List.getElem?_set_ne e, bitsL_get F q hq]
      simp [e]
  · rw [List.getElem?_eq_none (by rw [List.length_set, bitsL_length]; omega), List.getElem?_eq_none (by rw [bitsL_length, setB_len]; omega)]

theorem bitsL_zero (n : Nat) : bitsL (List.replicate n 0) = List.replicate (8 * n) false := by
  refine List.ext_getElem? fun q => ?_
  by_cases hq : q < 8 * n
  · rw [bitsL_get _ q (by simpa using hq), List.getElem?_replicate, if_pos hq]
    unfold bitB
    rw [List.getD_eq_getElem?_getD, List.getElem?_replicate, if_pos (by omega)]
    simp
  · rw [List.getElem?_eq_none (by rw [bitsL_length]; simpa using hq), List.getElem?_eq_none (by simpa using hq)]

/-- Bytes, as far as their first i bits are told. -/
def partF (F : List UInt8) (i : Nat) : List UInt8 := F.mapIdx fun d x => UInt8.ofNat (x.toNat % 2 ^ (i - 8 * d))

theorem partF_len (F : List UInt8) (i : Nat) : (partF F i).length = F.length := by simp [partF]
theorem partF_get (F : List UInt8) (i d : Nat) : (partF F i)[d]? = F[d]?.map fun x => UInt8.ofNat (x.toNat % 2 ^ (i - 8 * d)) := by simp [partF]

theorem partF_zero (F : List UInt8) : partF F 0 = List.replicate F.length 0 := by
  refine List.ext_getElem? fun d => ?_
  rw [partF_get, List.getElem?_replicate]
  by_cases hd : d < F.length
  · rw [List.getElem?_eq_getElem hd, if_pos hd]
    simp [Nat.mod_one]
  · rw [List.getElem?_eq_none (by omega), if_neg hd]
    rfl

theorem ofNat_toNat' (x : UInt8) : UInt8.ofNat x.toNat = x := UInt8.toNat_inj.1 (u8_ofNat_toNat _ x.toNat_lt)

theorem partF_all (F : List UInt8) : partF F (8 * F.length) = F := by
  refine List.ext_getElem? fun d => ?_
  rw [partF_get]
  by_cases hd : d < F.length
  · rw [List.getElem?_eq_getElem hd, Option.map_some]
    have h8 : 2 ^ 8 ≤ 2 ^ (8 * F.length - 8 * d) := Nat.pow_le_pow_right (by decide) (by omega)
    rw [Nat.mod_eq_of_lt (Nat.lt_of_lt_of_le F[d].toNat_lt h8), ofNat_toNat']
  · rw [List.getElem?_eq_none (by omega)]
    rfl

theorem mod_bit (x r : Nat) : x % 2 ^ (r + 1) = x % 2 ^ r + (if x.testBit r then 2 ^ r else 0) := by
  rw [Nat.mod_pow_succ, Nat.testBit_eq_decide_div_mod_eq]
  rcases Nat.mod_two_eq_zero_or_one (x / 2 ^ r) with h | h <;> rw [h] <;> simp

theorem partF_no {F : List UInt8} {i : Nat} (_h : i < 8 * F.length) (hb : bitB F i = false) : partF F (i + 1) = partF F i := by
  refine List.ext_getElem? fun d => ?_
  rw [partF_get, partF_get]
  by_cases hd : d < F.length
  · rw [List.getElem?_eq_getElem hd, Option.map_some, Option.map_some]
    by_cases e : d = i / 8
    · have e1 : i + 1 - 8 * d = i % 8 + 1 := by omega
      have e2 : i - 8 * d = i % 8 := by omega
      have hb' : F[d].toNat.testBit (i % 8) = false := by
        unfold bitB at hb
        rw [← e, List.getD_eq_getElem?_getD, List.getElem?_eq_getElem hd] at hb
        exact hb
      rw [e1, e2, mod_bit, hb']
      simp
    · by_cases h1 : d < i / 8
      · have h8 : 2 ^ 8 ≤ 2 ^ (i - 8 * d) := Nat.pow_le_pow_right (by decide) (by omega)
        have h9 : 2 ^ 8 ≤ 2 ^ (i + 1 - 8 * d) := Nat.pow_le_pow_right (by decide) (by omega)
        rw [Nat.mod_eq_of_lt (Nat.lt_of_lt_of_le F[d].toNat_lt h8), Nat.mod_eq_of_lt (Nat.lt_of_lt_of_le F[d].toNat_lt h9)]
      · rw [show i + 1 - 8 * d = i - 8 * d by omega]
  · rw [List.getElem?_eq_none (by omega)]
    rfl

theorem partF_yes {F : List UInt8} {i : Nat} {x : UInt8} (h : i < 8 * F.length) (hb : bitB F i = true) (hx : (partF F i)[i / 8]? = some x) : partF F (i + 1) = (partF F i).set (i / 8) (UInt8.ofNat (x.toNat + 2 ^ (i % 8))) ∧ x.toNat + 2 ^ (i % 8) < 256 := by
  have hd : i / 8 < F.length := by omega
  have hx' : x = UInt8.ofNat (F[i / 8].toNat % 2 ^ (i % 8)) := by
    rw [partF_get, List.getElem?_eq_getElem hd, Option.map_some, Option.some.injEq, show i - 8 * (i / 8) = i % 8 by omega] at hx
    exact hx.symm
  have hlt : 2 ^ (i % 8) ≤ 2 ^ 7 := Nat.pow_le_pow_right (by decide) (by omega)
  have hml : F[i / 8].toNat % 2 ^ (i % 8) < 2 ^ (i % 8) := Nat.mod_lt _ (Nat.two_pow_pos _)
  have hxn : x.toNat = F[i / 8].toNat % 2 ^ (i % 8) := by rw [hx', u8_ofNat_toNat _ (by omega)]
  refine ⟨?_, by omega⟩
  refine List.ext_getElem? fun d => ?_
  by_cases e : d = i / 8
  · subst e
    rw [List.getElem?_set_self (by rw [partF_len]; exact hd), partF_get, List.getElem?_eq_getElem hd, Option.map_some, show i + 1 - 8 * (i / 8) = i % 8 + 1 by omega, mod_bit]
    have hb' : F[i / 8].toNat.testBit (i % 8) = true := by
      unfold bitB at hb
      rw [List.getD_eq_getElem?_getD, List.getElem?_eq_getElem hd] at hb
      exact hb
    rw [hb', hxn]
    simp
  · rw [List.getElem?_set_ne (fun h => e h.symm), partF_get, partF_get]
    by_cases hd2 : d < F.length
    · rw [List.getElem?_eq_getElem hd2, Option.map_some, Option.map_some]
      by_cases h1 : d < i / 8
      · have h8 : 2 ^ 8 ≤ 2 ^ (i - 8 * d) := Nat.pow_le_pow_right (by decide) (by omega)
        have h9 : 2 ^ 8 ≤ 2 ^ (i + 1 - 8 * d) := Nat.pow_le_pow_right (by decide) (by omega)
        rw [Nat.mod_eq_of_lt (Nat.lt_of_lt_of_le F[d].toNat_lt h8), Nat.mod_eq_of_lt (Nat.lt_of_lt_of_le F[d].toNat_lt h9)]
      · rw [show i + 1 - 8 * d = i - 8 * d by omega]
    · rw [List.getElem?_eq_none (by omega)]
      rfl

end Go.Proofs.Ytlebbkbbmgmmjac
