/-
  The walks over package wire's sum and its frames.
-/
import Derived.Test.YtlebbkbbmgmmjabCrcMath
import Derived.Test.YtlebbkbbmgmmjabWireW3
import Derived.Test.YtlebbkbbmgmmjabBase2
namespace Go.Proofs.Ytlebbkbbmgmmjab
open Go.RowKit

theorem u32_and1 (c : Nat) (h : c < 4294967296) : bits .and .u32 (c : Int) 1 = ((c % 2 : Nat) : Int) := by
  rw [show (1 : Int) = ((1 : Nat) : Int) from rfl, u32_and_nat c 1 h (by decide), nat_mask1]

theorem u32_xorP (c : Nat) (h : c < 4294967296) : bits .xor .u32 (c : Int) 3988292384 = ((c ^^^ 3988292384 : Nat) : Int) := by
  rw [show (3988292384 : Int) = ((3988292384 : Nat) : Int) from rfl, u32_xor_nat c 3988292384 h (by decide)]

theorem nat_not32 (c : Nat) (h : c < 4294967296) : 4294967295 ^^^ c = 4294967295 - c := by
  have := congrArg BitVec.toNat (BitVec.allOnes_xor (x := BitVec.ofNat 32 c))
  rw [BitVec.toNat_xor, BitVec.toNat_not, BitVec.toNat_allOnes, BitVec.toNat_ofNat, Nat.mod_eq_of_lt (by omega)] at this
  exact this

theorem u32_not (c : Nat) (h : c < 4294967296) : bits .xor .u32 IntKind.u32.max (c : Int) = ((4294967295 - c : Nat) : Int) := by
  rw [show IntKind.u32.max = ((4294967295 : Nat) : Int) by decide, u32_xor_nat 4294967295 c (by decide) h, nat_not32 c h]

set_option maxRecDepth 100000 in
set_option maxHeartbeats 400000 in
theorem remainder_any (v : Value) (bs : List UInt8) (w : World) (hrd : Rd w v (bc bs)) :
    Calls Try.prog 86 #[v] w fun e w' => e = .returned (.int .u32 (crc bs)) ∧ w' = w := by
  obtain ⟨ao, cap, hv, hc1, hc2, hcell⟩ := hrd.open
  rw [bc_length] at hc1 hv hcell
  subst hv
  unfold maxLen at hc2
  go_enter Try.func86, Try.ntmps86
  go_wp2_with fail
  go_loop [3, 9] (fun c i => ∃ k : Nat, k ≤ bs.length ∧ i = .int .i64 k ∧ c = .int .u32 (crcGo 4294967295 (bs.take k))) (fun _ i => bs.length - (intOf i).toNat)
  case atStart => exact ⟨0, by omega, rfl, rfl⟩
  case round =>
    obtain ⟨k, hk, rfl, rfl⟩ := hrel
    have hcl := crcGo_lt (bs.take k) (c := 4294967295) (by decide)
    by_cases hlt : k < bs.length
    · obtain ⟨b, off, rfl, hb, hcl1⟩ := hcell k hlt
      have hck : w.cell? ⟨b, off + k, none⟩ = some (.int .u8 (bs[k].toNat : Int)) := hcl1 k _ (by simp [bc, hlt])
      have hsn := crcGo_snoc 4294967295 bs k hlt
      clear hcell hcl1
      unfold crcByte at hsn
      have hxl := bs[k].toNat_lt
      generalize bs[k].toNat = x at *
      generalize crcGo 4294967295 (bs.take k) = c at *
      have hx := u32_xor_nat c x hcl (by omega)
      have hcx : c ^^^ x < 4294967296 := Nat.xor_lt_two_pow (n := 32) hcl (by omega)
      have HS := hide hsn
      clear hsn
      generalize c ^^^ x = d at *
      go_wp2_with fail
      go_loop [3, 17] (fun c i => ∃ j : Nat, j ≤ 8 ∧ i = .int .i64 j ∧ c = .int .u32 (crcBits j d)) (fun _ i => 8 - (intOf i).toNat)
      case atStart => exact ⟨0, by omega, rfl, rfl⟩
      case round =>
        obtain ⟨j, hj, rfl, rfl⟩ := hrel
        have hdl := crcBits_lt hcx j
        by_cases hj8 : j < 8
        · have hst : crcBits (j + 1) d = crcBit (crcBits j d) := rfl
          generalize crcBits j d = g at *
          have ha := u32_and1 g hdl
          have hxp := u32_xorP (g / 2) (by omega)
          unfold crcBit at hst
          by_cases ho : g % 2 = 1
          · rw [if_pos ho] at hst
            have hob : (((g % 2 : Nat) : Int) == 1) = true := by rw [ho]; rfl
            have HO := hide ho
            have HST := hide hst
            clear ho hst
            go_wp2_with fail
            go_round
            case rel => exact ⟨j + 1, by omega, by go_num, by rw [HST.out, ← hxp]; rfl⟩
            case measure => simp [intOf]; omega
          · rw [if_neg ho] at hst
            have hob : (((g % 2 : Nat) : Int) == 1) = false := beq_eq_false_iff_ne.2 (by omega)
            have HO := hide ho
            have HST := hide hst
            clear ho hst
            go_wp2_with fail
            go_round
            case rel => exact ⟨j + 1, by omega, by go_num, by rw [HST.out]; rfl⟩
            case measure => simp [intOf]; omega
        · obtain rfl : j = 8 := by omega
          go_wp2_with fail
          go_round
          case rel => exact ⟨k + 1, by omega, by go_num, by rw [HS.out]⟩
          case measure => simp [intOf]; omega
    · rw [List.take_of_length_le (by omega)] at hcl ⊢
      have hn := u32_not _ hcl
      have hcr : 4294967295 - crcGo 4294967295 bs = crc bs := rfl
      rw [hcr] at hn
      have HN := hide hn
      clear hn hcr
      go_wp2_with fail
      go_ret
      exact ⟨by rw [← HN.out]; rfl, rfl⟩

set_option maxRecDepth 100000 in
set_option maxHeartbeats 400000 in
theorem highFirst_any (v : Value) (bs : List UInt8) (w : World) (hrd : Rd w v (bc bs)) (hl : bs.length ≤ 4) :
    Calls Try.prog 87 #[v] w fun e w' => e = .returned (.int .u32 (beVal bs)) ∧ w' = w := by
  obtain ⟨ao, cap, hv, hc1, hc2, hcell⟩ := hrd.open
  rw [bc_length] at hc1 hv hcell
  subst hv
  unfold maxLen at hc2
  go_enter Try.func87, Try.ntmps87
  go_wp2_with fail
  go_loop [3, 8] (fun c i => ∃ k : Nat, k ≤ bs.length ∧ i = .int .i64 k ∧ c = .int .u32 (beVal (bs.take k))) (fun _ i => bs.length - (intOf i).toNat)
  case atStart => exact ⟨0, by omega, rfl, rfl⟩
  case round =>
    obtain ⟨k, hk, rfl, rfl⟩ := hrel
    by_cases hlt : k < bs.length
    · obtain ⟨b, off, rfl, hb, hcl1⟩ := hcell k hlt
      have hck : w.cell? ⟨b, off + k, none⟩ = some (.int .u8 (bs[k].toNat : Int)) := hcl1 k _ (by simp [bc, hlt])
      have hsn := beVal_snoc bs k hlt
      have hlt3 : beVal (bs.take k) < 16777216 := by
        have h1 := beVal_go_lt (bs.take k) 0 0 (by simp)
        have h2 : 256 ^ (0 + (bs.take k).length) ≤ 256 ^ 3 := Nat.pow_le_pow_right (by decide) (by simp; omega)
        have h3 : (256 : Nat) ^ 3 = 16777216 := by decide
        unfold beVal
        omega
      clear hcell hcl1
      have hxl := bs[k].toNat_lt
      generalize bs[k].toNat = x at *
      generalize beVal (bs.take k) = c at *
      have HS := hide hsn
      clear hsn
      have hor := u32_or_nat (c * 256) x (by omega) (by omega)
      rw [nat_join 8 (c * 256) x (by omega) (by omega)] at hor
      have HO := hide hor
      clear hor
      go_wp2_with fail
      go_round
      case rel => exact ⟨k + 1, by omega, by go_num, by rw [HS.out, ← HO.out, Int.natCast_mul]; rfl⟩
      case measure => simp [intOf]; omega
    · rw [List.take_of_length_le (by omega)]
      go_wp2_with fail
      go_ret
      exact ⟨rfl, rfl⟩


theorem Rd.lits (w : World) (cs : Array Value) (e : TypeId) (h : cs.size ≤ 1000) : Rd (w.alloc (.cells cs e)) (.slice (some ⟨w.heap.size, 0, none⟩) cs.size cs.size) cs.toList :=
  Rd.ofOwns (World.ownsRow_lit (base := 0) (size := 1) w cs cs.size (Nat.zero_le _) (by simp [maxLen]; omega) (by simp))

/-- A slice that lies below B, while what lies from B on changes. -/
theorem Rd.low {w w' : World} {v : Value} {xs : List Value} {B : Nat} (h : Rd w v xs) (hlt : ∀ a l c, v = .slice (some a) l c → 0 < xs.length → a.block < B) (hb : Below B w w') : Rd w' v xs := by
  obtain ⟨ao, cap, hv, h1, h2, h3, h4⟩ := h
  refine ⟨ao, cap, hv, h1, h2, h3, fun a ha j u hu => ?_⟩
  have hc := h4 a ha j u hu
  have e : (a.add j).block = a.block := by unfold Addr.add; split <;> rfl
  have := hlt a _ _ (by rw [hv, ha]) (by have := (List.getElem?_eq_some_iff.1 hu).1; omega)
  rw [hb.cell (by omega)]
  exact hc

theorem head2_cells (n : Nat) (h : n ≤ 65535) : [Value.int .u8 ((n : Int) / 256), Value.int .u8 ((n : Int) % 256)] = bc (head2 n) := by
  simp only [bc, head2, List.map_cons, List.map_nil]
  rw [u8_ofNat_toNat _ (by omega), u8_ofNat_toNat _ (by omega)]
  simp

theorem be4_cells (n : Nat) (h : n < 4294967296) : [Value.int .u8 ((n : Int) / 16777216), Value.int .u8 ((n : Int) / 65536 % 256), Value.int .u8 ((n : Int) / 256 % 256), Value.int .u8 ((n : Int) % 256)] = bc (be4 n) := by
  simp only [bc, be4, List.map_cons, List.map_nil]
  rw [u8_ofNat_toNat _ (by omega), u8_ofNat_toNat _ (by omega), u8_ofNat_toNat _ (by omega), u8_ofNat_toNat _ (by omega)]
  simp


end Go.Proofs.Ytlebbkbbmgmmjab
