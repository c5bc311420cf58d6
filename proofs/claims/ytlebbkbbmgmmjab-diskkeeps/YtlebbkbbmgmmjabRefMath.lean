/-
  The document's way to read a number: by trying; plain mathematics.
-/
import Derived.Test.YtlebbkbbmgmmjabWireMath2
namespace Go.Proofs.Ytlebbkbbmgmmjab

/-- What bytes of seven bits each come to, the lowest first. -/
def valOf : List UInt8 → Nat
  | [] => 0
  | x :: r => x.toNat % 128 + 128 * valOf r

theorem valOf_lt : ∀ (l : List UInt8), valOf l < 128 ^ l.length
  | [] => by simp [valOf]
  | x :: r => by
    have := valOf_lt r
    simp only [valOf, List.length_cons, Nat.pow_succ]
    omega

theorem valOf_enc : ∀ (g n : Nat), n < 128 ^ (g + 1) → valOf (enc g n) = n
  | 0, n, h => by
    have h : n < 128 := by simpa using h
    rw [enc_small 0 n h]
    simp only [valOf]
    rw [u8_ofNat_toNat n (by omega)]
    omega
  | g + 1, n, h => by
    by_cases h1 : n < 128
    · rw [enc_small _ n h1]
      simp only [valOf]
      rw [u8_ofNat_toNat n (by omega)]
      omega
    · rw [enc_big g n (by omega)]
      simp only [valOf]
      rw [u8_ofNat_toNat _ (by omega), valOf_enc g (n / 128) (by rw [Nat.pow_succ] at h; omega)]
      omega

/-- Are the first k bytes a written number? -/
def okAt (bs : List UInt8) (k : Nat) : Prop := valOf (bs.take k) ≤ 1000000000 ∧ encN (valOf (bs.take k)) = bs.take k
theorem okAt_some {bs : List UInt8} {k : Nat} (h : okAt bs k) (hk : k ≤ bs.length) : numAt bs = some (valOf (bs.take k), k) := by
  have h1 := numAt_enc (valOf (bs.take k)) (bs.drop k) h.1
  have hl := congrArg List.length h.2
  rw [List.length_take, Nat.min_eq_left hk] at hl
  rw [hl, h.2, List.take_append_drop] at h1
  exact h1

theorem okAt_of {bs : List UInt8} {n k : Nat} (h : numAt bs = some (n, k)) : okAt bs k ∧ 1 ≤ k ∧ k ≤ 5 ∧ k ≤ bs.length := by
  have hb := numAt_back h
  have hl := numAt_len h
  have hv : valOf (encN n) = n := valOf_enc 9 n (by omega)
  have h5 : (encN n).length ≤ 5 := enc_len_pow 9 4 n (by omega)
  rw [← hb, List.length_take] at h5
  refine ⟨⟨?_, ?_⟩, by omega, by omega, hl.2.1⟩
  · rw [hb, hv]; exact hl.2.2
  · rw [hb, hv]

theorem numAt_none {bs : List UInt8} (h : ∀ k, 1 ≤ k → k ≤ 5 → k ≤ bs.length → ¬ okAt bs k) : numAt bs = none := by
  cases hn : numAt bs with
  | none => rfl
  | some p =>
    obtain ⟨n, k⟩ := p
    obtain ⟨h1, h2, h3, h4⟩ := okAt_of hn
    exact absurd h1 (h k h2 h3 h4)

theorem valOf_drop (l : List UInt8) (j : Nat) (h : j < l.length) : valOf (l.drop j) = valOf (l.drop (j + 1)) * 128 + l[j].toNat % 128 := by
  rw [drop_cons l j h, valOf]
  omega

theorem valOf_bound {l : List UInt8} (h : l.length ≤ 5) : valOf l < 34359738368 := by
  have h1 := valOf_lt l
  have h2 : 128 ^ l.length ≤ 128 ^ 5 := Nat.pow_le_pow_right (by decide) h
  have h3 : (128 : Nat) ^ 5 = 34359738368 := by decide
  omega

end Go.Proofs.Ytlebbkbbmgmmjab
