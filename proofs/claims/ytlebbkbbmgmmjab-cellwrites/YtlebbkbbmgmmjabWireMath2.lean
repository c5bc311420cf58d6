/-
  There and back: numbers and texts that are written are read as they were; plain mathematics.
-/
import Derived.Test.YtlebbkbbmgmmjabWireW5
namespace Go.Proofs.Ytlebbkbbmgmmjab

theorem enc_len_pow : ∀ (g j m : Nat), m < 128 ^ (j + 1) → (enc g m).length ≤ j + 1
  | 0, _, _, _ => by simp [enc]
  | g + 1, j, m, h => by
    rw [enc]
    split
    · simp
    · cases j with
      | zero => simp at h; omega
      | succ j =>
        have := enc_len_pow g j (m / 128) (by rw [Nat.pow_succ] at h; omega)
        simp; omega

/-- What is written is read. -/
theorem readNum_enc (r : List UInt8) : ∀ (g m i acc f : Nat), m < 128 ^ (g + 1) → (enc g m).length ≤ f → (0 < m ∨ i = 0) → acc + m * 128 ^ i ≤ 1000000000 →
    readNum f i acc (enc g m ++ r) = some (acc + m * 128 ^ i, i + (enc g m).length)
  | g, m, i, acc, 0, _, hf, _, _ => by have := enc_pos g m; omega
  | g, m, i, acc, f + 1, hm, hf, h0, hle => by
    by_cases h : m < 128
    · rw [enc_small g m h]
      have hx : (UInt8.ofNat m).toNat = m := u8_ofNat_toNat m (by omega)
      have hmm : m % 128 = m := by omega
      have := @readNum_some f i acc (UInt8.ofNat m) r (by omega) (by rw [hx, hmm]; omega)
      rw [hx, hmm] at this
      simpa using this
    · cases g with
      | zero => simp at hm; omega
      | succ g =>
        rw [enc_big g m (by omega)] at hf ⊢
        have hx : (UInt8.ofNat (m % 128 + 128)).toNat = m % 128 + 128 := u8_ofNat_toNat _ (by omega)
        rw [List.cons_append, readNum_more (by omega), hx]
        have hmm : (m % 128 + 128) % 128 = m % 128 := by omega
        have he : acc + m % 128 * 128 ^ i + m / 128 * 128 ^ (i + 1) = acc + m * 128 ^ i := by
          rw [Nat.pow_succ, Nat.add_assoc, show m / 128 * (128 ^ i * 128) = (m / 128 * 128) * 128 ^ i by rw [Nat.mul_comm (128 ^ i) 128, Nat.mul_assoc], ← Nat.add_mul]
          congr 2
          omega
        have := readNum_enc r g (m / 128) (i + 1) (acc + m % 128 * 128 ^ i) f (by rw [Nat.pow_succ] at hm; omega) (by simpa using hf) (.inl (by omega)) (by omega)
        rw [hmm, this, he]
        simp
        omega

theorem numAt_enc (n : Nat) (r : List UInt8) (h : n ≤ 1000000000) : numAt (encN n ++ r) = some (n, (encN n).length) := by
  have := readNum_enc r 9 n 0 0 5 (by omega) (enc_len_pow 9 4 n (by omega)) (.inr rfl) (by omega)
  simpa [numAt, encN] using this

/-- What is read is written. -/
theorem readNum_back : ∀ (f i acc : Nat) (bs : List UInt8) (n k : Nat), readNum f i acc bs = some (n, k) →
    ∃ m, n = acc + m * 128 ^ i ∧ (0 < i → 0 < m) ∧ ∀ g, f ≤ g + 1 → bs.take (k - i) = enc g m
  | 0, _, _, _, _, _, h => by simp [readNum] at h
  | f + 1, _, _, [], _, _, h => by simp [readNum] at h
  | f + 1, i, acc, x :: r, n, k, h => by
    by_cases hx : 128 ≤ x.toNat
    · rw [readNum_more hx] at h
      obtain ⟨m, h1, h2, h3⟩ := readNum_back f (i + 1) _ r n k h
      have hl := readNum_len f (i + 1) _ r n k h
      have hxl := x.toNat_lt
      have hm := h2 (by omega)
      refine ⟨x.toNat % 128 + 128 * m, ?_, fun _ => by omega, fun g hg => ?_⟩
      · rw [h1, Nat.pow_succ, Nat.add_mul, Nat.add_assoc]
        congr 2
        rw [Nat.mul_comm (128 ^ i) 128, ← Nat.mul_assoc, Nat.mul_comm m 128]
      · cases g with
        | zero =>
          have : f = 0 := by omega
          subst this
          simp [readNum] at h
        | succ g =>
          rw [enc_big g _ (by omega), show k - i = (k - (i + 1)) + 1 by omega, List.take_succ_cons, h3 g (by omega)]
          congr 1
          · apply UInt8.toNat_inj.1
            rw [u8_ofNat_toNat _ (by omega)]
            omega
          · congr 1
            omega
    · by_cases hb : (x.toNat = 0 ∧ 0 < i) ∨ 1000000000 < acc + x.toNat % 128 * 128 ^ i
      · rw [readNum_none (by omega) hb] at h
        cases h
      · rw [readNum_some (by omega) hb] at h
        simp only [Option.some.injEq, Prod.mk.injEq] at h
        obtain ⟨rfl, rfl⟩ := h
        refine ⟨x.toNat, ?_, fun hi => by omega, fun g _ => ?_⟩
        · rw [show x.toNat % 128 = x.toNat by omega]
        · rw [enc_small g _ (by omega), show i + 1 - i = 1 by omega]
          simp

theorem numAt_back {bs : List UInt8} {n k : Nat} (h : numAt bs = some (n, k)) : bs.take k = encN n := by
  obtain ⟨m, h1, _, h3⟩ := readNum_back 5 0 0 bs n k h
  have := h3 9 (by omega)
  simp at h1
  subst h1
  simpa [encN] using this

/-! ### numbers -/
def flat (zs : List Int) : List UInt8 := zs.flatMap fun z => encN z.toNat
def okNum (z : Int) : Prop := 0 ≤ z ∧ z ≤ 1000000000
theorem numsGo_of : ∀ (zs : List Int) (k : Nat) (acc : List UInt8), (∀ z ∈ zs, okNum z) → numsGo zs k acc = (acc ++ flat zs, 0, 0)
  | [], _, acc, _ => by simp [numsGo, flat]
  | z :: zs, k, acc, h => by
    have hz := h z (by simp)
    unfold okNum at hz
    rw [numsGo, if_neg (by omega), numsGo_of zs _ _ (fun y hy => h y (by simp [hy]))]
    simp [flat]

theorem numsGo_ok : ∀ (zs : List Int) (k : Nat) (acc : List UInt8), (numsGo zs k acc).2.1 = 0 → ∀ z ∈ zs, okNum z
  | [], _, _, _ => by simp
  | z :: zs, k, acc, h => by
    rw [numsGo] at h
    split at h
    · simp at h
    · intro y hy
      rcases List.mem_cons.1 hy with rfl | hy
      · unfold okNum; omega
      · exact numsGo_ok zs _ _ h y hy

theorem flat_len : ∀ (zs : List Int), (∀ z ∈ zs, okNum z) → zs.length ≤ (flat zs).length ∧ (flat zs).length ≤ 5 * zs.length
  | [], _ => by simp [flat]
  | z :: zs, h => by
    have ih := flat_len zs (fun y hy => h y (by simp [hy]))
    have hz := h z (by simp)
    unfold okNum at hz
    have h1 := enc_pos 9 z.toNat
    have h2 := enc_len_pow 9 4 z.toNat (by omega)
    have e : (flat (z :: zs)).length = (encN z.toNat).length + (flat zs).length := by simp [flat]
    simp only [encN] at e
    simp only [List.length_cons]
    omega

theorem rdNums_flat : ∀ (zs : List Int) (f : Nat) (acc : List Int), (∀ z ∈ zs, okNum z) → zs.length ≤ f → rdNums (f + 1) (flat zs) acc = if 1000 < acc.length + zs.length then ([], 2, 0) else (acc ++ zs, 0, 0)
  | [], f, acc, _, _ => by
    have e : flat [] = [] := rfl
    rw [e]
    by_cases h : 1000 < acc.length
    · rw [rdNums_many h, if_pos (by simpa using h)]
    · rw [rdNums_end (by omega), if_neg (by simpa using h)]; simp
  | z :: zs, 0, acc, _, h => by simp at h
  | z :: zs, f + 1, acc, h, hf => by
    have hz := h z (by simp)
    unfold okNum at hz
    have e : flat (z :: zs) = encN z.toNat ++ flat zs := by simp [flat]
    have hne : encN z.toNat ++ flat zs ≠ [] := by
      intro h0
      have := enc_pos 9 z.toNat
      have h1 := congrArg List.length h0
      simp only [encN, List.length_append, List.length_nil] at h1
      omega
    rw [e, rdNums_step hne (numAt_enc _ _ (by omega)), List.drop_left, rdNums_flat zs f _ (fun y hy => h y (by simp [hy])) (by simpa using hf)]
    have : ((z.toNat : Nat) : Int) = z := by omega
    rw [this]
    simp [Nat.add_assoc, Nat.add_comm 1]

theorem nums_there {zs : List Int} (h : (numsR zs).2.1 = 0) : readNumsR (numsR zs).1 = (zs, 0, 0) := by
  unfold numsR at h ⊢
  by_cases hb : 1000 < zs.length
  · rw [if_pos hb] at h; simp at h
  · rw [if_neg hb] at h ⊢
    have hok := numsGo_ok zs 0 [] h
    have hl := flat_len zs hok
    rw [numsGo_of zs 0 [] hok]
    simp only [List.nil_append]
    rw [readNumsR, if_neg (by omega), rdNums_flat zs _ [] hok hl.1, if_neg (by simpa using hb)]
    simp

theorem rdNums_back : ∀ (f : Nat) (bs : List UInt8) (acc : List Int), bs.length ≤ f → (rdNums (f + 1) bs acc).2.1 = 0 → ∃ zs, rdNums (f + 1) bs acc = (acc ++ zs, 0, 0) ∧ bs = flat zs ∧ (∀ z ∈ zs, okNum z) ∧ acc.length + zs.length ≤ 1000
  | f, [], acc, _, h => by
    by_cases hb : 1000 < acc.length
    · rw [rdNums_many hb] at h; simp at h
    · exact ⟨[], by rw [rdNums_end (by omega)]; simp, rfl, by simp, by simp; omega⟩
  | 0, b :: bs, acc, hf, _ => by simp at hf
  | f + 1, b :: bs, acc, hf, h => by
    cases hn : numAt (b :: bs) with
    | none => rw [rdNums_bad (by simp) hn] at h; simp at h
    | some p =>
      obtain ⟨n, k⟩ := p
      have hl := numAt_len hn
      rw [rdNums_step (by simp) hn] at h ⊢
      obtain ⟨zs, h1, h2, h3, h4⟩ := rdNums_back f ((b :: bs).drop k) (acc ++ [(n : Int)]) (by rw [List.length_drop]; omega) h
      refine ⟨(n : Int) :: zs, ?_, ?_, ?_, ?_⟩
      · rw [h1]; simp
      · have e : flat ((n : Int) :: zs) = encN n ++ flat zs := by simp [flat]
        rw [e, ← h2, ← numAt_back hn, List.take_append_drop]
      · intro z hz
        rcases List.mem_cons.1 hz with rfl | hz
        · unfold okNum; omega
        · exact h3 z hz
      · simp at h4 ⊢; omega

theorem nums_back {bs : List UInt8} (h : (readNumsR bs).2.1 = 0) : numsR (readNumsR bs).1 = (bs, 0, 0) := by
  unfold readNumsR at h ⊢
  by_cases hb : 60000 < bs.length
  · rw [if_pos hb] at h; simp at h
  · rw [if_neg hb] at h ⊢
    obtain ⟨zs, h1, h2, h3, h4⟩ := rdNums_back bs.length bs [] (Nat.le_refl _) h
    rw [h1]
    simp only [List.nil_append]
    rw [numsR, if_neg (by simpa using h4), numsGo_of zs 0 [] h3, ← h2]
    rfl

/-! ### texts -/
def tflat (ss : List (List UInt8)) : List UInt8 := ss.flatMap fun s => encN s.length ++ s
theorem tflat_cons (s : List UInt8) (ss : List (List UInt8)) : tflat (s :: ss) = encN s.length ++ s ++ tflat ss := by simp [tflat]
theorem textsGo_of : ∀ (ss : List (List UInt8)) (acc : List UInt8), acc.length + (tflat ss).length ≤ 60000 → textsGo ss acc = (acc ++ tflat ss, 0, 0)
  | [], acc, _ => by simp [textsGo, tflat]
  | s :: ss, acc, h => by
    rw [tflat_cons] at h ⊢
    simp only [List.length_append] at h
    rw [textsGo, if_neg (by omega), textsGo_of ss _ (by simp only [List.length_append]; omega)]
    simp

theorem textsGo_much : ∀ (ss : List (List UInt8)) (acc : List UInt8), acc.length ≤ 60000 → 60000 < acc.length + (tflat ss).length → textsGo ss acc = ([], 9, 0)
  | [], acc, h0, h => by simp [tflat] at h; omega
  | s :: ss, acc, h0, h => by
    rw [tflat_cons] at h
    simp only [List.length_append] at h
    rw [textsGo]
    split
    · rfl
    · exact textsGo_much ss _ (by simp only [List.length_append]; omega) (by simp only [List.length_append]; omega)

theorem textAt_enc (s r : List UInt8) (h : s.length ≤ 1000000000) : textAt (encN s.length ++ s ++ r) = some (s, (encN s.length).length + s.length) := by
  rw [textAt, List.append_assoc, numAt_enc _ _ h]
  simp only [List.length_append]
  rw [if_neg (by omega), List.drop_left, List.take_left]

theorem tflat_len : ∀ (ss : List (List UInt8)), ss.length ≤ (tflat ss).length ∧ ∀ s ∈ ss, s.length ≤ (tflat ss).length
  | [] => by simp [tflat]
  | s :: ss => by
    have ih := tflat_len ss
    have h1 := enc_pos 9 s.length
    have e : (tflat (s :: ss)).length = (encN s.length).length + s.length + (tflat ss).length := by rw [tflat_cons]; simp; omega
    simp only [encN] at e
    refine ⟨by simp only [List.length_cons]; omega, fun t ht => ?_⟩
    rcases List.mem_cons.1 ht with rfl | ht
    · omega
    · have := ih.2 t ht; omega

theorem rdTexts_flat : ∀ (ss : List (List UInt8)) (f : Nat) (acc : List (List UInt8)), (∀ s ∈ ss, s.length ≤ 1000000000) → ss.length ≤ f → rdTexts (f + 1) (tflat ss) acc = if 1000 < acc.length + ss.length then ([], 2, 0) else (acc ++ ss, 0, 0)
  | [], f, acc, _, _ => by
    have e : tflat [] = [] := rfl
    rw [e]
    by_cases h : 1000 < acc.length
    · rw [rdTexts_many h, if_pos (by simpa using h)]
    · rw [rdTexts_end (by omega), if_neg (by simpa using h)]; simp
  | z :: zs, 0, acc, _, h => by simp at h
  | s :: ss, f + 1, acc, h, hf => by
    have hs := h s (by simp)
    have hne : encN s.length ++ s ++ tflat ss ≠ [] := by
      intro h0
      have := enc_pos 9 s.length
      have h1 := congrArg List.length h0
      simp only [encN, List.length_append, List.length_nil] at h1
      omega
    rw [tflat_cons, rdTexts_step hne (textAt_enc s _ hs), ← List.length_append, List.drop_left, rdTexts_flat ss f _ (fun y hy => h y (by simp [hy])) (by simpa using hf)]
    simp [Nat.add_assoc, Nat.add_comm 1]

theorem texts_there {ss : List (List UInt8)} (h : (textsR ss).2.1 = 0) : readTextsR (textsR ss).1 = (ss, 0, 0) := by
  unfold textsR at h ⊢
  by_cases hb : 1000 < ss.length
  · rw [if_pos hb] at h; simp at h
  · rw [if_neg hb] at h ⊢
    by_cases hm : (tflat ss).length ≤ 60000
    · have hl := tflat_len ss
      rw [textsGo_of ss [] (by simpa using hm)]
      simp only [List.nil_append]
      rw [readTextsR, if_neg (by omega), rdTexts_flat ss _ [] (fun s hs => by have := hl.2 s hs; omega) hl.1, if_neg (by simpa using hb)]
      simp
    · rw [textsGo_much ss [] (by simp) (by simp; omega)] at h
      simp at h

theorem textAt_back {bs t : List UInt8} {m : Nat} (h : textAt bs = some (t, m)) : bs.take m = encN t.length ++ t ∧ 0 < m ∧ m ≤ bs.length := by
  obtain ⟨n, k, h1, h2, h3, rfl, rfl⟩ := textAt_some h
  have hl : ((bs.drop k).take n).length = n := by simp; omega
  refine ⟨?_, by omega, by omega⟩
  rw [hl, ← numAt_back h3, List.take_add]

theorem rdTexts_back : ∀ (f : Nat) (bs : List UInt8) (acc : List (List UInt8)), bs.length ≤ f → (rdTexts (f + 1) bs acc).2.1 = 0 → ∃ ss, rdTexts (f + 1) bs acc = (acc ++ ss, 0, 0) ∧ bs = tflat ss ∧ acc.length + ss.length ≤ 1000
  | f, [], acc, _, h => by
    by_cases hb : 1000 < acc.length
    · rw [rdTexts_many hb] at h; simp at h
    · exact ⟨[], by rw [rdTexts_end (by omega)]; simp, rfl, by simp; omega⟩
  | 0, b :: bs, acc, hf, _ => by simp at hf
  | f + 1, b :: bs, acc, hf, h => by
    cases hn : textAt (b :: bs) with
    | none => rw [rdTexts_bad (by simp) hn] at h; simp at h
    | some p =>
      obtain ⟨t, m⟩ := p
      have hl := textAt_back hn
      rw [rdTexts_step (by simp) hn] at h ⊢
      obtain ⟨ss, h1, h2, h4⟩ := rdTexts_back f ((b :: bs).drop m) (acc ++ [t]) (by rw [List.length_drop]; omega) h
      refine ⟨t :: ss, ?_, ?_, ?_⟩
      · rw [h1]; simp
      · rw [tflat_cons, ← h2, ← hl.1, List.take_append_drop]
      · simp at h4 ⊢; omega

theorem texts_back {bs : List UInt8} (h : (readTextsR bs).2.1 = 0) : textsR (readTextsR bs).1 = (bs, 0, 0) ∧ ∀ s ∈ (readTextsR bs).1, s.length ≤ 60000 := by
  unfold readTextsR at h ⊢
  by_cases hb : 60000 < bs.length
  · rw [if_pos hb] at h; simp at h
  · rw [if_neg hb] at h ⊢
    obtain ⟨ss, h1, h2, h4⟩ := rdTexts_back bs.length bs [] (Nat.le_refl _) h
    rw [h1]
    simp only [List.nil_append]
    have hl := tflat_len ss
    rw [← h2] at hl
    refine ⟨?_, fun s hs => by have := hl.2 s hs; omega⟩
    rw [textsR, if_neg (by simpa using h4), textsGo_of ss [] (by rw [← h2]; simpa using hb), ← h2]
    rfl

end Go.Proofs.Ytlebbkbbmgmmjab
