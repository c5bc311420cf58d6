/-
  The walks over the document's sum and frames.
-/
import Derived.Test.YtlebbkbbmgmmjabRefB
namespace Go.Proofs.Ytlebbkbbmgmmjab
open Go.RowKit

/-- The document's register, one bit of a byte. -/
def refBit (r x k : Nat) : Nat := if (r + x / 2 ^ k % 2) % 2 = 1 then (r / 2) ^^^ 3988292384 else r / 2
def refBits : Nat → Nat → Nat → Nat
  | 0, r, _ => r
  | j + 1, r, x => refBit (refBits j r x) x j

theorem xor_half (a b : Nat) : (a ^^^ b) / 2 = a / 2 ^^^ b / 2 := by
  have := Nat.shiftRight_xor_distrib (a := a) (b := b) (i := 1)
  simpa [Nat.shiftRight_eq_div_pow] using this

theorem xor_low (a b : Nat) : (a ^^^ b) % 2 = (a + b) % 2 := by
  have h := Nat.xor_mod_two_pow (a := a) (b := b) (n := 1)
  simp only [Nat.pow_one] at h
  rw [h]
  rcases Nat.mod_two_eq_zero_or_one a with ha | ha <;> rcases Nat.mod_two_eq_zero_or_one b with hb | hb <;> rw [ha, hb] <;> simp <;> omega

theorem refBits_eq (r x : Nat) : ∀ j, refBits j r x ^^^ (x / 2 ^ j) = crcBits j (r ^^^ x)
  | 0 => by simp [refBits, crcBits]
  | j + 1 => by
    have ih := refBits_eq r x j
    rw [refBits, crcBits, ← ih]
    generalize refBits j r x = s
    have hq : x / 2 ^ (j + 1) = x / 2 ^ j / 2 := by rw [Nat.pow_succ, Nat.div_div_eq_div_mul]
    rw [hq]
    unfold refBit crcBit
    generalize x / 2 ^ j = y
    rw [xor_low, xor_half]
    by_cases h : (s + y) % 2 = 1
    · rw [if_pos (by omega), if_pos h]
      rw [Nat.xor_assoc, Nat.xor_comm 3988292384, ← Nat.xor_assoc]
    · rw [if_neg (by omega), if_neg h]

theorem refBits_byte (r : Nat) (x : UInt8) : refBits 8 r x.toNat = crcByte r x := by
  have := refBits_eq r x.toNat 8
  have hx := x.toNat_lt
  rw [show x.toNat / 2 ^ 8 = 0 by omega, Nat.xor_zero] at this
  exact this

theorem refBits_lt {r : Nat} (x : Nat) (h : r < 4294967296) : ∀ j, refBits j r x < 4294967296
  | 0 => h
  | j + 1 => by
    have ih := refBits_lt x h j
    rw [refBits]
    unfold refBit
    split
    · exact Nat.xor_lt_two_pow (n := 32) (by omega) (by decide)
    · omega

theorem ref_cast (g x j : Nat) : ((g : Int) + (x : Int) / 2 ^ j) = ((g + x / 2 ^ j : Nat) : Int) := by
  rw [Int.natCast_add, Int.natCast_ediv, Int.natCast_pow]
  rfl

theorem ref_yes {g x j : Nat} (h : (((g : Int) + (x : Int) / 2 ^ j) % 2 == 1) = true) : refBit g x j = (g / 2) ^^^ 3988292384 := by
  rw [ref_cast, beq_iff_eq] at h
  unfold refBit
  generalize x / 2 ^ j = y at *
  rw [if_pos (by omega)]

theorem ref_no {g x j : Nat} (h : (((g : Int) + (x : Int) / 2 ^ j) % 2 == 1) = false) : refBit g x j = g / 2 := by
  rw [ref_cast, beq_eq_false_iff_ne] at h
  unfold refBit
  generalize x / 2 ^ j = y at *
  rw [if_neg (by omega)]

set_option maxRecDepth 100000 in
set_option maxHeartbeats 400000 in
theorem RefRest_any (v : Value) (bs : List UInt8) (w : World) (hrd : Rd w v (bc bs)) :
    Calls Try.prog 46 #[v] w fun e w' => e = .returned (.int .u32 (crc bs)) ∧ w' = w := by
  obtain ⟨ao, cap, hv, hc1, hc2, hcell⟩ := hrd.open
  rw [bc_length] at hc1 hv hcell
  subst hv
  unfold maxLen at hc2
  go_enter Try.func46, Try.ntmps46
  go_wp2_with fail
  go_loop [3, 4] (fun c i => ∃ k : Nat, k ≤ bs.length ∧ i = .int .i64 k ∧ c = .int .u32 (crcGo 4294967295 (bs.take k))) (fun _ i => bs.length - (intOf i).toNat)
  case atStart => exact ⟨0, by omega, rfl, rfl⟩
  case round =>
    obtain ⟨k, hk, rfl, rfl⟩ := hrel
    have hcl := crcGo_lt (bs.take k) (c := 4294967295) (by decide)
    by_cases hlt : k < bs.length
    · obtain ⟨b, off, rfl, hb, hcl1⟩ := hcell k hlt
      have hck : w.cell? ⟨b, off + k, none⟩ = some (.int .u8 (bs[k].toNat : Int)) := hcl1 k _ (by simp [bc, hlt])
      have hsn := crcGo_snoc 4294967295 bs k hlt
      rw [← refBits_byte] at hsn
      clear hcell hcl1
      have hxl := bs[k].toNat_lt
      generalize bs[k].toNat = x at *
      generalize crcGo 4294967295 (bs.take k) = c at *
      have HS := hide hsn
      clear hsn
      go_wp2_with fail
      go_loop [3, 5] (fun g i => ∃ j : Nat, j ≤ 8 ∧ i = .int .i64 j ∧ g = .int .u32 (refBits j c x)) (fun _ i => 8 - (intOf i).toNat)
      case atStart => exact ⟨0, by omega, rfl, rfl⟩
      case round =>
        obtain ⟨j, hj, rfl, rfl⟩ := hrel
        have hdl := refBits_lt x hcl j
        by_cases hj8 : j < 8
        · have hst : refBits (j + 1) c x = refBit (refBits j c x) x j := rfl
          generalize refBits j c x = g at *
          have hxp := u32_xorP (g / 2) (by omega)
          have HST := hide hst
          have HXP := hide hxp
          clear hst hxp
          go_wp2_with fail
          · go_round
            case rel => exact ⟨j + 1, by omega, by go_num, by rw [HST.out, ref_yes (by assumption), ← HXP.out]; rfl⟩
            case measure => simp [intOf]; omega
          · go_round
            case rel => exact ⟨j + 1, by omega, by go_num, by rw [HST.out, ref_no (by assumption)]; rfl⟩
            case measure => simp [intOf]; omega
        · obtain rfl : j = 8 := by omega
          go_wp2_with fail
          go_round
          case rel => exact ⟨k + 1, by omega, by go_num, by rw [HS.out]⟩
          case measure => simp [intOf]; omega
    · rw [List.take_of_length_le (by omega)] at hcl ⊢
      go_wp2_with fail
      go_ret
      refine ⟨?_, rfl⟩
      have e : (4294967295 : Int) - (crcGo 4294967295 bs : Nat) = ((crc bs : Nat) : Int) := by unfold crc; omega
      rw [← e]
      rfl

set_option maxRecDepth 100000 in
set_option maxHeartbeats 400000 in
theorem Framed_own (x : Value) (bs : List UInt8) (w : World) (hrd : Rd w x (bc bs)) (hl : bs.length ≤ 65535) :
    Calls Try.prog 15 #[x] w fun e w' => ∃ v', e = .returned v' ∧ w'.ownsRow w.heap.size 5 1 v' (framed bs).length (bc (framed bs)) ∧ Below w.heap.size w w' := by
  obtain ⟨ao, cap, hv, hc1, hc2, _⟩ := hrd.open
  rw [bc_length] at hc1 hv
  subst hv
  unfold maxLen at hc2
  go_enter Try.func15, Try.ntmps15
  have ho0 := World.ownsRow_lit (base := w.heap.size) (size := 1) (e := 5) w #[.int .u8 ((bs.length : Int) / 256), .int .u8 ((bs.length : Int) % 256)] 2 (Nat.le_refl _) (by decide) (by simp)
  go_upto_region 2 with (at_builtin; go_must (refine wpList_append_rd ho0 (hrd.alloc _) Try.underlying25 Try.info5 rfl rfl rfl rfl rfl (bc_one _) (by rw [bc_length]; omega) (by decide) (by simp) ?_); intro v1 w1 ho1 hb1 hg1; clear hg1)
  have hbw1 : Below w.heap.size w w1 := ((Below.refl _ _).alloc (Nat.le_refl _) _).trans hb1
  have hsz1 := hbw1.size
  have ho1' : w1.ownsRow w.heap.size 5 1 v1 (head2 bs.length ++ bs).length (bc (head2 bs.length ++ bs)) := by
    rw [bc_append, ← head2_cells _ hl, List.length_append, bc_length] at *
    exact ho1
  have hcrc := crc_lt (head2 bs.length ++ bs)
  have hfr : framed bs = (head2 bs.length ++ bs) ++ be4 (crc (head2 bs.length ++ bs)) := rfl
  have hl2 : (head2 bs.length ++ bs).length = bs.length + 2 := by simp [head2]
  have HF := hide hfr
  have HL2 := hide hl2
  clear hfr ho1 hb1 ho0 hrd hl2
  generalize head2 bs.length ++ bs = hd at *
  go_wp2_with fail
  refine (RefRest_any _ hd _ (Rd.ofOwns ho1')).mono ?_
  rintro e w2 ⟨rfl, rfl⟩
  generalize hS : crc hd = S at *
  have HS := hide hS
  clear hS
  have hS2 : (S : Int) ≤ 4294967295 := by omega
  go_wp2_with (at_builtin; go_must (refine wpList_append_rd (ho1'.alloc _) (Rd.lits _ _ _ (by simp)) Try.underlying25 Try.info5 rfl rfl rfl rfl rfl (by simp [Value.oneCell']) (by have := HL2.out; simp; omega) (by decide) (by simp; omega) ?_); intro v4 w4 ho4 hb4 hg4; clear hg4)
  go_ret
  refine ⟨v4, rfl, ?_, (hbw1.alloc hsz1 _).trans hb4⟩
  rw [HF.out, bc_append, ← be4_cells _ hcrc, List.length_append, be4_length]
  exact ho4

theorem Framed_any (x : Value) (bs : List UInt8) (w : World) (hrd : Rd w x (bc bs)) (hl : bs.length ≤ 65535) :
    Calls Try.prog 15 #[x] w fun e w' => ∃ v', e = .returned v' ∧ Rd w' v' (bc (framed bs)) ∧ Below w.heap.size w w' ∧ New w.heap.size v' :=
  (Framed_own x bs w hrd hl).mono fun _ _ ⟨v', h1, h2, h3⟩ => ⟨v', h1, Rd.ofOwns h2, h3, New.owns h2⟩

/-- What Unframed comes to, from what is left on. -/
def unGo : Nat → List UInt8 → List (List UInt8) → Nat → List (List UInt8) × Nat
  | 0, _, _, _ => ([], 0)
  | f + 1, bs, acc, k => match frameAt bs with
    | none => (acc, k)
    | some body => unGo f (bs.drop (body.length + 6)) (acc ++ [body]) (k + (body.length + 6))

theorem unGo_end {f k : Nat} {bs : List UInt8} {acc : List (List UInt8)} (h : frameAt bs = none) : unGo (f + 1) bs acc k = (acc, k) := by rw [unGo, h]
theorem unGo_step {f k : Nat} {bs body : List UInt8} {acc : List (List UInt8)} (h : frameAt bs = some body) : unGo (f + 1) bs acc k = unGo f (bs.drop (body.length + 6)) (acc ++ [body]) (k + (body.length + 6)) := by rw [unGo, h]
theorem unGo_more : ∀ (f k : Nat) (bs : List UInt8) (acc : List (List UInt8)), bs.length ≤ f → acc.length ≤ (unGo (f + 1) bs acc k).1.length
  | 0, k, bs, acc, h => by
    have : frameAt bs = none := frameAt_short (by omega)
    rw [unGo_end this]
    exact Nat.le_refl _
  | f + 1, k, bs, acc, h => by
    cases hn : frameAt bs with
    | none => rw [unGo_end hn]; exact Nat.le_refl _
    | some body =>
      have hl := frameAt_len hn
      rw [unGo_step hn]
      have := unGo_more f (k + (body.length + 6)) (bs.drop (body.length + 6)) (acc ++ [body]) (by rw [List.length_drop]; omega)
      simp at this
      omega

theorem open_un : ∀ (f k : Nat) (bs : List UInt8) (acc : List (List UInt8)), bs.length ≤ f → acc.length ≤ 1000 →
    openGo (f + 1) bs acc k = if 1000 < (unGo (f + 1) bs acc k).1.length then ([], 0, 2) else ((unGo (f + 1) bs acc k).1, ((unGo (f + 1) bs acc k).2 : Int), 0)
  | 0, k, bs, acc, h, ha => by
    have : frameAt bs = none := frameAt_short (by omega)
    rw [unGo_end this, openGo_end this, if_neg (by simp; omega)]
  | f + 1, k, bs, acc, h, ha => by
    cases hn : frameAt bs with
    | none => rw [unGo_end hn, openGo_end hn, if_neg (by simp; omega)]
    | some body =>
      have hl := frameAt_len hn
      by_cases hm : acc.length = 1000
      · have := unGo_more f (k + (body.length + 6)) (bs.drop (body.length + 6)) (acc ++ [body]) (by rw [List.length_drop]; omega)
        simp at this
        rw [openGo_many hn hm, unGo_step hn, if_pos (by omega)]
      · rw [openGo_step hn hm, unGo_step hn]
        exact open_un f _ _ _ (by rw [List.length_drop]; omega) (by simp; omega)

theorem framed_same {ds : List UInt8} {y0 y1 : UInt8} {n : Nat} (h0 : ds[0]? = some y0) (h1 : ds[1]? = some y1) (hn : n = y0.toNat * 256 + y1.toNat) (hl : 6 + n ≤ ds.length) :
    (framed ((ds.drop 2).take n) == ds.take (6 + n)) = decide (crc (ds.take (2 + n)) = beVal ((ds.drop (2 + n)).take 4)) := by
  have hx0 := y0.toNat_lt
  have hx1 := y1.toNat_lt
  have hbl : ((ds.drop 2).take n).length = n := by simp; omega
  have hh : head2 n ++ (ds.drop 2).take n = ds.take (2 + n) := by
    have e2 : ds.take 2 = head2 n := by
      cases ds with
      | nil => simp at h0
      | cons a r =>
        cases r with
        | nil => simp at h1
        | cons b r =>
          simp only [List.getElem?_cons_zero, List.getElem?_cons_succ, Option.some.injEq] at h0 h1
          subst h0 h1
          simp only [List.take_succ_cons, List.take_zero, head2]
          rw [show n / 256 = a.toNat by omega, show n % 256 = b.toNat by omega]
          simp
    rw [← e2, List.take_add]
  have hX : ((ds.drop (2 + n)).take 4).length = 4 := by simp; omega
  have e1 : framed ((ds.drop 2).take n) = ds.take (2 + n) ++ be4 (crc (ds.take (2 + n))) := by
    unfold framed
    rw [hbl, hh]
  have e2 : ds.take (6 + n) = ds.take (2 + n) ++ (ds.drop (2 + n)).take 4 := by
    rw [show 6 + n = (2 + n) + 4 by omega, List.take_add]
  rw [e1, e2]
  rw [Bool.eq_iff_iff, beq_iff_eq, decide_eq_true_iff, List.append_cancel_left_eq]
  constructor
  · intro h
    rw [← h, beVal_be4 _ (crc_lt _)]
  · intro h
    rw [h, be4_beVal hX]

end Go.Proofs.Ytlebbkbbmgmmjab
