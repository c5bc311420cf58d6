/-
  Numbers written in bytes: plain mathematics, nothing of a program.
-/
import Derived.Test.YtlebbkbbmgmmjabBase
namespace Go.Proofs.Ytlebbkbbmgmmjab

/-- A number, written: with so many steps at most. -/
def enc : Nat → Nat → List UInt8
  | 0, n => [UInt8.ofNat n]
  | f + 1, n => if n < 128 then [UInt8.ofNat n] else UInt8.ofNat (n % 128 + 128) :: enc f (n / 128)

/-- A number below 2 ^ 63, written. -/
def encN (n : Nat) : List UInt8 := enc 9 n

theorem enc_small (f n : Nat) (h : n < 128) : enc f n = [UInt8.ofNat n] := by
  cases f <;> simp [enc, h]

theorem enc_big (f n : Nat) (h : 128 ≤ n) : enc (f + 1) n = UInt8.ofNat (n % 128 + 128) :: enc f (n / 128) := by
  rw [enc, if_neg (by omega)]

theorem enc_length (f : Nat) : ∀ n, (enc f n).length ≤ f + 1 := by
  induction f with
  | zero => intro n; simp [enc]
  | succ f ih =>
    intro n
    rw [enc]
    split
    · simp
    · simp; exact ih _

theorem enc_pos (f n : Nat) : 0 < (enc f n).length := by
  cases f with
  | zero => simp [enc]
  | succ f => rw [enc]; split <;> simp

theorem u8_ofNat_toNat (x : Nat) (h : x < 256) : (UInt8.ofNat x).toNat = x := by
  simp only [UInt8.toNat_ofNat']
  omega

theorem or128 (m : Nat) : bits .or .u8 (bits .and .i64 (m : Int) 127 % 256) 128 = ((UInt8.ofNat (m % 128 + 128)).toNat : Int) := by
  have e : (m : Int) % 128 % 256 = ((m % 128 : Nat) : Int) := by omega
  have h2 := u8_or_nat (m % 128) 128 (by omega) (by omega)
  rw [i64_and127, e, show (128 : Int) = ((128 : Nat) : Int) from rfl, h2, u8_ofNat_toNat _ (by omega), Nat.or_comm, nat_join 7 128 (m % 128) (by decide) (by omega), Nat.add_comm]

theorem enc_step_big {n f m : Nat} {pre : List UInt8} (hp : pre ++ enc f m = encN n) (hm : m < 128 ^ f) (hf : pre.length + f = 9) (h : 128 ≤ m) :
    ∃ f', (pre ++ [UInt8.ofNat (m % 128 + 128)]) ++ enc f' (m / 128) = encN n ∧ m / 128 < 128 ^ f' ∧ (pre ++ [UInt8.ofNat (m % 128 + 128)]).length + f' = 9 := by
  cases f with
  | zero => simp at hm; omega
  | succ f =>
    refine ⟨f, ?_, ?_, ?_⟩
    · rw [← hp, enc_big _ _ h]; simp
    · rw [Nat.pow_succ] at hm; omega
    · simp; omega

theorem enc_step_small {n f m : Nat} {pre : List UInt8} (hp : pre ++ enc f m = encN n) (h : m < 128) : pre ++ [UInt8.ofNat m] = encN n := by
  rw [← hp, enc_small _ _ h]

theorem bc_snoc (l : List UInt8) (x : Nat) (h : x < 256) (y : Int) (hy : y = x) : bc l ++ [.int .u8 y] = bc (l ++ [UInt8.ofNat x]) := by
  subst hy
  rw [bc_append]
  simp only [bc, List.map_cons, List.map_nil, u8_ofNat_toNat x h]

theorem bc_snoc' (l : List UInt8) (x : UInt8) : bc l ++ [.int .u8 (x.toNat : Int)] = bc (l ++ [x]) := by
  rw [bc_append]
  rfl

/-- What Nums comes to, from a place on: the bytes, the fault's code and place. -/
def numsGo : List Int → Nat → List UInt8 → List UInt8 × Int × Int
  | [], _, acc => (acc, 0, 0)
  | z :: zs, k, acc => if z < 0 ∨ 1000000000 < z then ([], 3, k) else numsGo zs (k + 1) (acc ++ encN z.toNat)

def numsR (zs : List Int) : List UInt8 × Int × Int := if 1000 < zs.length then ([], 2, 0) else numsGo zs 0 []
theorem drop_cons {α : Type} (l : List α) (k : Nat) (h : k < l.length) : l.drop k = l[k] :: l.drop (k + 1) := List.drop_eq_getElem_cons h
theorem numsGo_step (zs : List Int) (k : Nat) (acc : List UInt8) (h : k < zs.length) (h1 : 0 ≤ zs[k]) (h2 : zs[k] ≤ 1000000000) :
    numsGo (zs.drop (k + 1)) (k + 1) (acc ++ encN zs[k].toNat) = numsGo (zs.drop k) k acc := by
  rw [drop_cons zs k h, numsGo, if_neg (by omega)]

theorem numsGo_bad (zs : List Int) (k : Nat) (acc : List UInt8) (h : k < zs.length) (h1 : zs[k] < 0 ∨ 1000000000 < zs[k]) : numsGo (zs.drop k) k acc = ([], 3, (k : Int)) := by
  rw [drop_cons zs k h, numsGo, if_pos h1]

theorem numsGo_end (zs : List Int) (k : Nat) (acc : List UInt8) (h : zs.length ≤ k) : numsGo (zs.drop k) k acc = (acc, 0, 0) := by
  rw [List.drop_eq_nil_of_le h, numsGo]

theorem encN_length (n : Nat) : (encN n).length ≤ 10 := enc_length 9 n

/-- A written number at the beginning of bytes, as the reader goes: so many bytes at most, at the i-th, so much gathered: the number, and how many bytes it has. -/
def readNum : Nat → Nat → Nat → List UInt8 → Option (Nat × Nat)
  | 0, _, _, _ => none
  | _ + 1, _, _, [] => none
  | f + 1, i, acc, x :: r =>
    if 128 ≤ x.toNat then readNum f (i + 1) (acc + x.toNat % 128 * 128 ^ i) r
    else if (x.toNat = 0 ∧ 0 < i) ∨ 1000000000 < acc + x.toNat % 128 * 128 ^ i then none else some (acc + x.toNat % 128 * 128 ^ i, i + 1)

def numAt (bs : List UInt8) : Option (Nat × Nat) := readNum 5 0 0 bs
theorem readNum_more {f i acc : Nat} {x : UInt8} {r : List UInt8} (h : 128 ≤ x.toNat) : readNum (f + 1) i acc (x :: r) = readNum f (i + 1) (acc + x.toNat % 128 * 128 ^ i) r := by
  rw [readNum, if_pos h]

theorem readNum_none {f i acc : Nat} {x : UInt8} {r : List UInt8} (h : x.toNat < 128) (h2 : (x.toNat = 0 ∧ 0 < i) ∨ 1000000000 < acc + x.toNat % 128 * 128 ^ i) : readNum (f + 1) i acc (x :: r) = none := by
  rw [readNum, if_neg (by omega), if_pos h2]

theorem readNum_some {f i acc : Nat} {x : UInt8} {r : List UInt8} (h : x.toNat < 128) (h2 : ¬ ((x.toNat = 0 ∧ 0 < i) ∨ 1000000000 < acc + x.toNat % 128 * 128 ^ i)) : readNum (f + 1) i acc (x :: r) = some (acc + x.toNat % 128 * 128 ^ i, i + 1) := by
  rw [readNum, if_neg (by omega), if_neg h2]

theorem readNum_short {f i acc : Nat} : readNum f i acc [] = none := by
  cases f <;> rfl

theorem i64_or_nat (a b : Nat) (ha : a < 9223372036854775808) (hb : b < 9223372036854775808) : bits .or .i64 (a : Int) (b : Int) = ((a ||| b : Nat) : Int) := by
  have h : a ||| b < 2 ^ 63 := Nat.or_lt_two_pow ha hb
  show IntKind.i64.wrap ((BitVec.ofInt 64 (a : Int) ||| BitVec.ofInt 64 (b : Int)).toNat : Nat) = _
  rw [BitVec.toNat_or, ofInt_u64 a (by omega), ofInt_u64 b (by omega), IntKind.wrap_i64]
  generalize a ||| b = c at *
  have : c < 9223372036854775808 := h
  omega

theorem pow128 (j : Nat) : (2 : Nat) ^ (7 * j) = 128 ^ j := by rw [Nat.pow_mul]
theorem pow128_le (j : Nat) (h : j ≤ 4) : 128 ^ j ≤ 268435456 := by
  match j, h with
  | 0, _ => decide
  | 1, _ => decide
  | 2, _ => decide
  | 3, _ => decide
  | 4, _ => decide

theorem u8_and127 (x : Nat) (h : x < 256) : bits .and .u8 (x : Int) 127 = ((x % 128 : Nat) : Int) := by
  rw [show (127 : Int) = ((127 : Nat) : Int) from rfl, u8_and_nat x 127 h (by decide)]
  exact congrArg _ (Nat.and_two_pow_sub_one_eq_mod x 7)

theorem num_val (acc x j : Nat) (hx : x < 256) (hj : j ≤ 4) (ha : acc < 128 ^ j) :
    bits BinOp.or IntKind.i64 (acc : Int) (RowKit.wrap64 (RowKit.wrap64 (bits BinOp.and IntKind.u8 (x : Int) 127) * 2 ^ (7 * j))) = ((acc + x % 128 * 128 ^ j : Nat) : Int) := by
  have hp := pow128_le j hj
  have hpi : (2 : Int) ^ (7 * j) = ((128 ^ j : Nat) : Int) := by
    rw [← pow128]
    exact (Int.natCast_pow 2 (7 * j)).symm
  have hm : x % 128 * 128 ^ j ≤ 127 * 268435456 := Nat.mul_le_mul (by omega) hp
  rw [u8_and127 x hx, IntWalk.wrap64_in ((x % 128 : Nat) : Int) (by omega), hpi, ← Int.natCast_mul, IntWalk.wrap64_in _ (by omega), i64_or_nat _ _ (by omega) (by omega), Nat.or_comm,
    nat_join (7 * j) (x % 128 * 128 ^ j) acc (by rw [pow128]; exact Nat.mul_mod_left _ _) (by rw [pow128]; exact ha), Nat.add_comm]

theorem num_bound (acc x j : Nat) (ha : acc < 128 ^ j) : acc + x % 128 * 128 ^ j < 128 ^ (j + 1) := by
  have h1 : x % 128 * 128 ^ j ≤ 127 * 128 ^ j := Nat.mul_le_mul_right _ (by omega)
  rw [Nat.pow_succ]
  omega

/-- What ReadNums comes to, from what is left on: the numbers, the fault's code and place. -/
def rdNums : Nat → List UInt8 → List Int → List Int × Int × Int
  | 0, _, _ => ([], 0, 0)
  | f + 1, bs, acc =>
    if bs = [] then (if 1000 < acc.length then ([], 2, 0) else (acc, 0, 0))
    else match numAt bs with
      | none => ([], 5, (acc.length : Int))
      | some (n, k) => rdNums f (bs.drop k) (acc ++ [(n : Int)])

def readNumsR (bs : List UInt8) : List Int × Int × Int := if 60000 < bs.length then ([], 8, 0) else rdNums (bs.length + 1) bs []
theorem readNum_len : ∀ (f i acc : Nat) (bs : List UInt8) (n k : Nat), readNum f i acc bs = some (n, k) → i < k ∧ k ≤ i + bs.length ∧ n ≤ 1000000000
  | 0, _, _, _, _, _, h => by simp [readNum] at h
  | f + 1, _, _, [], _, _, h => by simp [readNum] at h
  | f + 1, i, acc, x :: r, n, k, h => by
    rw [readNum] at h
    split at h
    · have := readNum_len f (i + 1) _ r n k h
      simp; omega
    · split at h
      · cases h
      · simp only [Option.some.injEq, Prod.mk.injEq] at h
        simp; omega

theorem numAt_len {bs : List UInt8} {n k : Nat} (h : numAt bs = some (n, k)) : 0 < k ∧ k ≤ bs.length ∧ n ≤ 1000000000 := by
  have := readNum_len 5 0 0 bs n k h
  omega

theorem rdNums_end {f : Nat} {acc : List Int} (h : acc.length ≤ 1000) : rdNums (f + 1) [] acc = (acc, 0, 0) := by
  rw [rdNums, if_pos rfl, if_neg (by omega)]

theorem rdNums_many {f : Nat} {acc : List Int} (h : 1000 < acc.length) : rdNums (f + 1) [] acc = ([], 2, 0) := by
  rw [rdNums, if_pos rfl, if_pos h]

theorem rdNums_bad {f : Nat} {bs : List UInt8} {acc : List Int} (h : bs ≠ []) (hn : numAt bs = none) : rdNums (f + 1) bs acc = ([], 5, (acc.length : Int)) := by
  rw [rdNums, if_neg h, hn]

theorem rdNums_step {f : Nat} {bs : List UInt8} {acc : List Int} {n k : Nat} (h : bs ≠ []) (hn : numAt bs = some (n, k)) : rdNums (f + 1) bs acc = rdNums f (bs.drop k) (acc ++ [(n : Int)]) := by
  rw [rdNums, if_neg h, hn]

theorem ic_snoc (l : List Int) (x : Int) : ic l ++ [.int .i64 x] = ic (l ++ [x]) := by rw [ic_append]; rfl

/-- A written text at the beginning of bytes: the text, and how many bytes it takes. -/
def textAt (bs : List UInt8) : Option (List UInt8 × Nat) :=
  match numAt bs with
  | none => none
  | some (n, k) => if bs.length < k + n then none else some ((bs.drop k).take n, k + n)

theorem textAt_some {bs t : List UInt8} {m : Nat} (h : textAt bs = some (t, m)) : ∃ n k, 0 < k ∧ k + n ≤ bs.length ∧ numAt bs = some (n, k) ∧ m = k + n ∧ t = (bs.drop k).take n := by
  unfold textAt at h
  split at h
  · cases h
  · rename_i n k hn
    split at h
    · cases h
    · simp only [Option.some.injEq, Prod.mk.injEq] at h
      exact ⟨n, k, (numAt_len hn).1, by omega, hn, h.2.symm, h.1.symm⟩

end Go.Proofs.Ytlebbkbbmgmmjab
