/-
  The sum: plain mathematics.
-/
import Derived.Test.YtlebbkbbmgmmjabWireMath
namespace Go.Proofs.Ytlebbkbbmgmmjab

/-- One bit goes down. -/
def crcBit (c : Nat) : Nat := if c % 2 = 1 then (c / 2) ^^^ 3988292384 else c / 2
def crcBits : Nat → Nat → Nat
  | 0, c => c
  | j + 1, c => crcBit (crcBits j c)

def crcByte (c : Nat) (x : UInt8) : Nat := crcBits 8 (c ^^^ x.toNat)
def crcGo (c : Nat) (bs : List UInt8) : Nat := bs.foldl crcByte c
def crc (bs : List UInt8) : Nat := 4294967295 - crcGo 4294967295 bs

theorem xor_rc {a b c : Nat} (h : a ^^^ c = b ^^^ c) : a = b := by
  have := congrArg (· ^^^ c) h
  simpa [Nat.xor_assoc] using this

theorem xor_lc {a b c : Nat} (h : c ^^^ a = c ^^^ b) : a = b := by
  rw [Nat.xor_comm c a, Nat.xor_comm c b] at h
  exact xor_rc h

theorem crcBit_lt {c : Nat} (h : c < 4294967296) : crcBit c < 4294967296 := by
  unfold crcBit
  split
  · exact Nat.xor_lt_two_pow (n := 32) (by omega) (by decide)
  · omega

theorem crcBits_lt {c : Nat} (h : c < 4294967296) : ∀ j, crcBits j c < 4294967296
  | 0 => h
  | j + 1 => crcBit_lt (crcBits_lt h j)

theorem crcByte_lt {c : Nat} (x : UInt8) (h : c < 4294967296) : crcByte c x < 4294967296 :=
  crcBits_lt (Nat.xor_lt_two_pow (n := 32) h (by have := x.toNat_lt; omega)) 8

theorem crcGo_lt : ∀ (bs : List UInt8) {c : Nat}, c < 4294967296 → crcGo c bs < 4294967296
  | [], _, h => h
  | x :: bs, _, h => crcGo_lt bs (crcByte_lt x h)

theorem crc_lt (bs : List UInt8) : crc bs < 4294967296 := by unfold crc; omega
theorem crcGo_snoc (c : Nat) (bs : List UInt8) (k : Nat) (h : k < bs.length) : crcGo c (bs.take (k + 1)) = crcByte (crcGo c (bs.take k)) bs[k] := by
  rw [List.take_succ_eq_append_getElem h]
  simp only [crcGo, List.foldl_append, List.foldl_cons, List.foldl_nil]

theorem crcGo_append (c : Nat) (xs ys : List UInt8) : crcGo c (xs ++ ys) = crcGo (crcGo c xs) ys := by simp [crcGo]

/-! ### no two differ in one place alone and have the same sum -/
theorem crcBit_inj {a b : Nat} (ha : a < 4294967296) (hb : b < 4294967296) (h : crcBit a = crcBit b) : a = b := by
  unfold crcBit at h
  have key : ∀ x y : Nat, x < 2147483648 → y < 2147483648 → x ^^^ 3988292384 ≠ y := by
    intro x y hx hy e
    have h1 : x ^^^ y = 3988292384 := by
      rw [← e, ← Nat.xor_assoc, Nat.xor_self, Nat.zero_xor]
    have h2 : x ^^^ y < 2 ^ 31 := Nat.xor_lt_two_pow hx hy
    rw [h1] at h2
    exact absurd h2 (by decide)
  split at h
  · split at h
    · have := xor_rc h
      omega
    · exact absurd h (key _ _ (by omega) (by omega))
  · split at h
    · exact absurd h.symm (key _ _ (by omega) (by omega))
    · omega

theorem crcBits_inj {a b : Nat} (ha : a < 4294967296) (hb : b < 4294967296) : ∀ j, crcBits j a = crcBits j b → a = b
  | 0, h => h
  | j + 1, h => crcBits_inj ha hb j (crcBit_inj (crcBits_lt ha j) (crcBits_lt hb j) h)

theorem xor_byte_lt {c : Nat} (x : UInt8) (h : c < 4294967296) : c ^^^ x.toNat < 4294967296 := Nat.xor_lt_two_pow (n := 32) h (by have := x.toNat_lt; omega)
theorem crcByte_inj {a b : Nat} (x : UInt8) (ha : a < 4294967296) (hb : b < 4294967296) (h : crcByte a x = crcByte b x) : a = b :=
  xor_rc (crcBits_inj (xor_byte_lt x ha) (xor_byte_lt x hb) 8 h)

theorem crcByte_inj' {c : Nat} (x y : UInt8) (hc : c < 4294967296) (h : crcByte c x = crcByte c y) : x = y :=
  UInt8.toNat_inj.1 (xor_lc (crcBits_inj (xor_byte_lt x hc) (xor_byte_lt y hc) 8 h))

theorem crcGo_inj : ∀ (bs : List UInt8) {a b : Nat}, a < 4294967296 → b < 4294967296 → crcGo a bs = crcGo b bs → a = b
  | [], _, _, _, _, h => h
  | x :: bs, _, _, ha, hb, h => crcByte_inj x ha hb (crcGo_inj bs (crcByte_lt x ha) (crcByte_lt x hb) h)

theorem crc_one {xs ys : List UInt8} {x y : UInt8} (h : x ≠ y) : crc (xs ++ x :: ys) ≠ crc (xs ++ y :: ys) := by
  intro e
  unfold crc at e
  have h0 : crcGo 4294967295 xs < 4294967296 := crcGo_lt xs (by decide)
  have h1 := crcGo_lt (xs ++ x :: ys) (c := 4294967295) (by decide)
  have h2 := crcGo_lt (xs ++ y :: ys) (c := 4294967295) (by decide)
  have e2 : crcGo 4294967295 (xs ++ x :: ys) = crcGo 4294967295 (xs ++ y :: ys) := by omega
  rw [crcGo_append, crcGo_append] at e2
  exact h (crcByte_inj' x y h0 (crcGo_inj ys (crcByte_lt x h0) (crcByte_lt y h0) e2))

/-! ### four bytes, the highest first -/
def be4 (n : Nat) : List UInt8 := [UInt8.ofNat (n / 16777216), UInt8.ofNat (n / 65536 % 256), UInt8.ofNat (n / 256 % 256), UInt8.ofNat (n % 256)]
def beVal (bs : List UInt8) : Nat := bs.foldl (fun n x => n * 256 + x.toNat) 0
theorem beVal_be4 (n : Nat) (h : n < 4294967296) : beVal (be4 n) = n := by
  simp only [beVal, be4, List.foldl_cons, List.foldl_nil]
  rw [u8_ofNat_toNat _ (by omega), u8_ofNat_toNat _ (by omega), u8_ofNat_toNat _ (by omega), u8_ofNat_toNat _ (by omega)]
  omega

theorem beVal_go_lt : ∀ (bs : List UInt8) (n j : Nat), n < 256 ^ j → bs.foldl (fun n x => n * 256 + x.toNat) n < 256 ^ (j + bs.length)
  | [], n, j, h => h
  | x :: bs, n, j, h => by
    have hx := x.toNat_lt
    have := beVal_go_lt bs (n * 256 + x.toNat) (j + 1) (by rw [Nat.pow_succ]; omega)
    rw [List.length_cons, show j + (bs.length + 1) = j + 1 + bs.length by omega]
    exact this

theorem beVal_lt {bs : List UInt8} (h : bs.length ≤ 4) : beVal bs < 4294967296 := by
  have h1 := beVal_go_lt bs 0 0 (by simp)
  have h2 : 256 ^ (0 + bs.length) ≤ 256 ^ 4 := Nat.pow_le_pow_right (by decide) (by omega)
  have h3 : (256 : Nat) ^ 4 = 4294967296 := by decide
  unfold beVal
  omega

theorem beVal_snoc (bs : List UInt8) (k : Nat) (h : k < bs.length) : beVal (bs.take (k + 1)) = beVal (bs.take k) * 256 + bs[k].toNat := by
  rw [List.take_succ_eq_append_getElem h]
  simp only [beVal, List.foldl_append, List.foldl_cons, List.foldl_nil]

theorem beVal_go_inj : ∀ (xs ys : List UInt8) (m n : Nat), xs.length = ys.length → xs.foldl (fun n x => n * 256 + x.toNat) m = ys.foldl (fun n x => n * 256 + x.toNat) n → m = n ∧ xs = ys
  | [], [], m, n, _, h => ⟨h, rfl⟩
  | x :: xs, y :: ys, m, n, hl, h => by
    obtain ⟨h1, h2⟩ := beVal_go_inj xs ys _ _ (by simpa using hl) h
    have hx := x.toNat_lt
    have hy := y.toNat_lt
    simp only at h1
    have : x = y := UInt8.toNat_inj.1 (by omega)
    exact ⟨by omega, by rw [this, h2]⟩
  | [], y :: ys, _, _, hl, _ => by simp at hl
  | x :: xs, [], _, _, hl, _ => by simp at hl

theorem beVal_inj {xs ys : List UInt8} (hl : xs.length = ys.length) (h : beVal xs = beVal ys) : xs = ys := (beVal_go_inj xs ys 0 0 hl h).2
theorem be4_length (n : Nat) : (be4 n).length = 4 := rfl
theorem be4_beVal {bs : List UInt8} (h : bs.length = 4) : be4 (beVal bs) = bs := by
  refine beVal_inj (by rw [be4_length, h]) ?_
  exact beVal_be4 _ (beVal_lt (by omega))

/-! ### a frame -/
def head2 (n : Nat) : List UInt8 := [UInt8.ofNat (n / 256), UInt8.ofNat (n % 256)]
def framed (body : List UInt8) : List UInt8 := head2 body.length ++ body ++ be4 (crc (head2 body.length ++ body))
theorem framed_length (body : List UInt8) : (framed body).length = body.length + 6 := by
  simp [framed, head2, be4]

/-- The body of the whole frame with which bytes begin. -/
def frameAt (bs : List UInt8) : Option (List UInt8) :=
  match bs with
  | a :: b :: r =>
    if bs.length < 6 + (a.toNat * 256 + b.toNat) then none
    else if crc (bs.take (2 + (a.toNat * 256 + b.toNat))) ≠ beVal ((bs.drop (2 + (a.toNat * 256 + b.toNat))).take 4) then none
    else some (r.take (a.toNat * 256 + b.toNat))
  | _ => none

end Go.Proofs.Ytlebbkbbmgmmjab
