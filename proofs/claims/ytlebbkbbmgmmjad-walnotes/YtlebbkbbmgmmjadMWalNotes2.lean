/-
  Texts joined: CodeW3, WireW2, WireW3, WireW4, WireW5, WireMath2, CellBase.
-/
import Derived.Test.YtlebbkbbmgmmjadMWalNotes1
/-
  The walks over package coding: texts.
-/
namespace Go.Proofs.Ytlebbkbbmgmmjad
open Go.RowKit

set_option maxRecDepth 100000 in
set_option maxHeartbeats 400000 in
theorem AppendText_any (v : Value) (xs t : List UInt8) (base : Nat) (w : World) (hown : w.ownsRow base 5 1 v xs.length (bc xs)) (hb : base ≤ w.heap.size)
    (ht : t.length ≤ 1000000000) (hx : xs.length ≤ 1000000000) :
    Calls Try.prog 119 #[v, .string ⟨t.toArray⟩] w fun e w' => ∃ v', e = .returned v' ∧ w'.ownsRow base 5 1 v' (xs ++ (encN t.length ++ t)).length (bc (xs ++ (encN t.length ++ t))) ∧ Below base w w' ∧ Ext w w' v v' := by
  have hsz : (⟨t.toArray⟩ : ByteArray).size = t.length := by simp [ByteArray.size]
  have hel := encN_length t.length
  obtain ⟨ao, cap, hvv⟩ := owns_shape hown
  subst hvv
  go_enter Try.func119, Try.ntmps119
  go_wp2_with fail
  refine (AppendNum_any _ xs t.length base w hown hb (by omega) (by omega)).mono ?_
  rintro e w1 ⟨v1, rfl, ho1, hb1, he1⟩
  have hb2 : base ≤ w1.heap.size := Nat.le_trans hb hb1.size
  have hl : (xs ++ encN t.length).length + t.length ≤ 1000000000000 := by rw [List.length_append]; omega
  go_wp2_with (at_builtin; go_must (refine wpList_append_strE ho1 Try.underlying42 Try.underlying9 Try.info85 rfl rfl rfl rfl hl hb2 ?_); intro v2 w2 ho2 hb2' hg2)
  go_ret
  exact ⟨_, rfl, by rw [List.append_assoc] at ho2; exact ho2, hb1.trans hb2', he1.trans hg2⟩

theorem Rd.grownT {w w' : World} {v : Value} {xs : List Value} {R : Nat} (h : Rd w v xs) (hg : w.grownBy w' (some R)) (hR : ∀ a l c, v = .slice (some a) l c → 0 < xs.length → a.block ≠ R) : Rd w' v xs := by
  obtain ⟨ao, cap, hv, h1, h2, h3, h4⟩ := h
  refine ⟨ao, cap, hv, h1, h2, h3, fun a ha j u hu => ?_⟩
  have hc := h4 a ha j u hu
  refine hg.cell hc ?_
  subst ha
  have e : (a.add j).block = a.block := by unfold Addr.add; split <;> rfl
  rw [e]
  intro e
  exact hR a _ _ hv (by have := (List.getElem?_eq_some_iff.1 hu).1; omega) (by simpa using e)

set_option maxRecDepth 100000 in
set_option maxHeartbeats 1000000 in
theorem Text_none (t : TypeId) (R : Nat) (v : Value) (bs : List UInt8) (k : Nat) (w : World) (hrd : Rd w v (bc bs)) (hblk : ∀ a l c, v = .slice (some a) l c → 0 < (bc bs).length → a.block ≠ R) (hr : RdrT w t R v k) (hk : k ≤ bs.length) (hn : textAt (bs.drop k) = none) :
    Calls Try.prog 120 #[.pointer (some ⟨R, 0, none⟩)] w fun e w' => e = .returned (.tuple #[.string ⟨#[]⟩, .bool false]) ∧ RdrT w' t R v k ∧ w.grownBy w' (some R) := by
  obtain ⟨c0, c1, f0, f1, hsz⟩ := hr.facts
  obtain ⟨ao, cap, hv, hc1, hc2⟩ := hrd.shape
  rw [bc_length] at hc1 hv
  unfold maxLen at hc2
  have HT := hide hn
  have HV := hide hv
  clear hn
  go_enter Try.func120, Try.ntmps120
  go_wp2_with fail
  refine (Num_any t R _ bs k w hrd hr hk).mono ?_
  rintro e w2 ⟨rfl, hr2, hg2⟩
  have hrd2 := hrd.grownT hg2 hblk
  cases hn : numAt (bs.drop k) with
  | none =>
    rw [hn] at hr2
    clear hn
    simp only [numVC]
    simp only [numKC, Nat.add_zero] at hr2
    go_wp2_with fail
    refine (Rest_any t R _ bs k w2 hrd2 hr2 hk).mono ?_
    rintro e w3 ⟨⟨vo, vc, rfl, _, _⟩, q, rfl⟩
    obtain ⟨d0, d1, g0, g1, hsz2⟩ := hr2.facts
    go_wp2_with fail
    go_ret2
    exact ⟨rfl, RdrT.set (w := w2.drewN q) hr2 _, grownT_trans (grownT_trans hg2 (grownT_drewN _ q _)) (grownT_set _ _ _ _)⟩
  | some p =>
    obtain ⟨n, j⟩ := p
    rw [hn] at hr2
    have hj := numAt_len hn
    have hlong : bs.length < k + j + n := by
      have := HT.out
      rw [textAt, hn] at this
      simp only [List.length_drop] at this
      split at this
      · omega
      · cases this
    clear hn
    rw [List.length_drop] at hj
    simp only [numVC]
    simp only [numKC] at hr2
    have hr3 := hr2
    rw [HV.out] at hr3
    go_wp2_with fail
    refine (Rest_any t R _ bs (k + j) w2 hrd2 hr2 (by omega)).mono ?_
    rintro e w3 ⟨⟨vo, vc, rfl, _, _⟩, q, rfl⟩
    go_wp2_with fail
    refine (Skip_no t R ao bs.length cap (k + j) n (w2.drewN q) hr3 (by omega) hlong (by omega)).mono ?_
    rintro e w4 ⟨rfl, q2, rfl⟩
    obtain ⟨d0, d1, g0, g1, hsz2⟩ := hr2.facts
    go_wp2_with fail
    go_ret2
    exact ⟨rfl, RdrT.set (w := w2.drewN (q + q2)) hr2 _, grownT_trans (grownT_trans hg2 (grownT_drewN _ (q + q2) _)) (grownT_set _ _ _ _)⟩

set_option maxRecDepth 100000 in
set_option maxHeartbeats 1000000 in
theorem Text_some (t : TypeId) (R : Nat) (v : Value) (bs tx : List UInt8) (k m : Nat) (w : World) (hrd : Rd w v (bc bs)) (hblk : ∀ a l c, v = .slice (some a) l c → 0 < (bc bs).length → a.block ≠ R) (hr : RdrT w t R v k) (hk : k ≤ bs.length) (hn : textAt (bs.drop k) = some (tx, m)) :
    Calls Try.prog 120 #[.pointer (some ⟨R, 0, none⟩)] w fun e w' => e = .returned (.tuple #[.string ⟨tx.toArray⟩, .bool true]) ∧ RdrT w' t R v (k + m : Nat) ∧ w.grownBy w' (some R) := by
  obtain ⟨c0, c1, f0, f1, hsz⟩ := hr.facts
  obtain ⟨ao, cap, hv, hc1, hc2⟩ := hrd.shape
  rw [bc_length] at hc1 hv
  unfold maxLen at hc2
  have HV := hide hv
  obtain ⟨n, j, hj1, hj2, hnm, hm, ht⟩ := textAt_some hn
  rw [List.length_drop] at hj2
  have HM := hide hm
  have HT : Hid (tx = (bs.drop (k + j)).take n) := hide (by rw [ht, List.drop_drop])
  clear hn hm ht
  go_enter Try.func120, Try.ntmps120
  go_wp2_with fail
  refine (Num_any t R _ bs k w hrd hr hk).mono ?_
  rintro e w2 ⟨rfl, hr2, hg2⟩
  have hrd2 := hrd.grownT hg2 hblk
  rw [hnm] at hr2 ⊢
  clear hnm
  simp only [numVC]
  simp only [numKC] at hr2
  have hr3 := hr2
  rw [HV.out] at hr3
  go_wp2_with fail
  refine (Rest_any t R _ bs (k + j) w2 hrd2 hr2 (by omega)).mono ?_
  rintro e w3 ⟨⟨vo, vc, rfl, hV, hvb⟩, q, rfl⟩
  go_wp2_with fail
  refine (Skip_ok t R ao bs.length cap (k + j) n (w2.drewN q) hr3 (by omega) (by omega)).mono ?_
  rintro e w4 ⟨rfl, hr4, hg4⟩
  have hlB : 0 < (bc bs).length := by rw [bc_length]; omega
  have hV4 : Rd w4 (.slice vo (bs.length - (k + j)) vc) (bc (bs.drop (k + j))) := by
    refine (hV.drewN q).grownT hg4 (fun a l c h _ => ?_)
    simp only [Value.slice.injEq] at h
    obtain ⟨a', l', c', h1, h2⟩ := hvb a h.1
    rw [h2]
    exact hblk a' l' c' h1 hlB
  have hlen4 := hV4.len
  have hs := run_slice_upto (P := Try.prog) Try.underlying42 (by kernel_rfl) Try.info85 vo (bs.length - (k + j)) vc n (n : Int) rfl (by omega)
  have hU := hV4.upto (hi := n) (by omega)
  rw [bc_take] at hU
  generalize hge : Go.sliced vo 0 n vc 1 = U at hs hU
  clear hge
  have hcv : (convert 42 9 U).run Try.prog w4 = .ok (.string ⟨((bs.drop (k + j)).take n).toArray⟩) w4 := run_string_of_rd (P := Try.prog) Try.underlying42 Try.underlying5 Try.underlying9 hU
  rw [← HT.out] at hcv
  obtain ⟨uo, uc, hvu, _, _⟩ := hU.shape
  have hlU : (bc ((bs.drop (k + j)).take n)).length = n := by rw [bc_length, List.length_take, List.length_drop]; omega
  rw [hlU] at hvu
  subst hvu
  clear hV4 hlen4 hU hvb hV
  go_wp2_with fail
  go_ret2
  exact ⟨rfl, by rw [HM.out, HV.out, ← Nat.add_assoc]; exact hr4, grownT_trans (grownT_trans hg2 (grownT_drewN _ q _)) hg4⟩

set_option maxRecDepth 100000 in
set_option maxHeartbeats 400000 in
theorem ReaderOf_any (ao : Option Addr) (n c : Nat) (w : World) :
    Calls Try.prog 67 #[.slice ao n c] w fun e w' => e = .returned (.agg #[.slice ao n c, .int .i64 0]) ∧ Below w.heap.size w w' ∧ w'.heap.size = w.heap.size + 1 := by
  go_enter Try.func67, Try.ntmps67
  go_wp2_with fail
  exact bodyPost_ret (v := .agg #[.slice ao n c, .int .i64 0]) (by simp [results, Try.results67, go_sem]) rfl ⟨rfl, by go_grown, by simp⟩

set_option maxRecDepth 100000 in
set_option maxHeartbeats 400000 in
theorem At_any (t : TypeId) (R : Nat) (v : Value) (k : Int) (w : World) (hr : RdrT w t R v k) :
    Calls Try.prog 107 #[.pointer (some ⟨R, 0, none⟩)] w fun e w' => e = .returned (.int .i64 k) ∧ w' = w := by
  obtain ⟨c0, c1, _, _, _⟩ := hr.facts
  go_enter Try.func107, Try.ntmps107
  go_wp2_with fail
  go_ret
  exact ⟨rfl, rfl⟩

end Go.Proofs.Ytlebbkbbmgmmjad

/-
  The reader's block, and what package wire's walks want of it.
-/
namespace Go.Proofs.Ytlebbkbbmgmmjad
open Go.RowKit

/-- The reader's block: the bytes, and the place. -/
def Rdr (w : World) (R : Nat) (v : Value) (k : Int) : Prop := RdrT w 104 R v k

theorem Rdr.facts {w : World} {R : Nat} {v : Value} {k : Int} (h : Rdr w R v k) :
    w.cell? ⟨R, 0, none⟩ = some v ∧ w.cell? ⟨R, 1, none⟩ = some (.int .i64 k) ∧ w.frozen? ⟨R, 0, none⟩ = false ∧ w.frozen? ⟨R, 1, none⟩ = false ∧ R < w.heap.size := RdrT.facts h

theorem Rdr.new (w : World) (o : Obj) (v : Value) (k : Int) : Rdr ((w.alloc o).alloc (.cells #[v, .int .i64 k] 104)) (w.heap.size + 1) v k := by
  have := heap_alloc_new (w.alloc o) (.cells #[v, .int .i64 k] 104)
  simpa [Rdr, RdrT] using this

theorem Rdr.set {w : World} {R : Nat} {v : Value} {k : Int} (h : Rdr w R v k) (k' : Int) : Rdr (w.setCell ⟨R, 1, none⟩ (.int .i64 k')) R v k' := RdrT.set h k'

theorem grown_set (w : World) (R j : Nat) (u : Value) : w.grownBy (w.setCell ⟨R, j, none⟩ u) (some R) :=
  ⟨rfl, rfl, rfl, by simp [World.setCell], fun k _ hk => heap_setCell_other w _ k u (fun e => hk (by simp [e]))⟩

theorem grown_drewN (w : World) (n : Nat) (row : Option Nat) : w.grownBy (w.drewN n) row := ⟨rfl, rfl, rfl, Nat.le_refl _, fun _ _ _ => rfl⟩

theorem Rd.grown {w w' : World} {v : Value} {xs : List Value} {R : Nat} (h : Rd w v xs) (hg : w.grownBy w' (some R)) (hR : ∀ a l c, v = .slice (some a) l c → 0 < xs.length → a.block ≠ R) : Rd w' v xs := by
  obtain ⟨ao, cap, hv, h1, h2, h3, h4⟩ := h
  refine ⟨ao, cap, hv, h1, h2, h3, fun a ha j u hu => ?_⟩
  have hc := h4 a ha j u hu
  have hlt := World.block_lt_of_cell? w _ hc
  refine hg.cell hc ?_
  subst ha
  have e : (a.add j).block = a.block := by unfold Addr.add; split <;> rfl
  rw [e]
  intro e
  exact hR a _ _ hv (by have := (List.getElem?_eq_some_iff.1 hu).1; omega) (by simpa using e)

theorem Rd.block_lt {w : World} {a : Addr} {n c : Nat} {xs : List Value} (h : Rd w (.slice (some a) n c) xs) (hp : 0 < xs.length) : a.block < w.heap.size := by
  obtain ⟨b, off, cap, hv, _, _, hb, _⟩ := h.pos hp
  simp only [Value.slice.injEq, Option.some.injEq] at hv
  obtain ⟨rfl, _, _⟩ := hv
  exact hb

end Go.Proofs.Ytlebbkbbmgmmjad

/-
  The walks over package wire's readers of lists.
-/
namespace Go.Proofs.Ytlebbkbbmgmmjad
open Go.RowKit


end Go.Proofs.Ytlebbkbbmgmmjad

/-
  The walks over package wire's texts.
-/
namespace Go.Proofs.Ytlebbkbbmgmmjad
open Go.RowKit

/-- What ReadTexts comes to, from what is left on. -/
def rdTexts : Nat → List UInt8 → List (List UInt8) → List (List UInt8) × Int × Int
  | 0, _, _ => ([], 0, 0)
  | f + 1, bs, acc =>
    if bs = [] then (if 1000 < acc.length then ([], 2, 0) else (acc, 0, 0))
    else match textAt bs with
      | none => ([], 5, (acc.length : Int))
      | some (t, k) => rdTexts f (bs.drop k) (acc ++ [t])

def readTextsR (bs : List UInt8) : List (List UInt8) × Int × Int := if 60000 < bs.length then ([], 8, 0) else rdTexts (bs.length + 1) bs []
theorem rdTexts_end {f : Nat} {acc : List (List UInt8)} (h : acc.length ≤ 1000) : rdTexts (f + 1) [] acc = (acc, 0, 0) := by
  rw [rdTexts, if_pos rfl, if_neg (by omega)]

theorem rdTexts_many {f : Nat} {acc : List (List UInt8)} (h : 1000 < acc.length) : rdTexts (f + 1) [] acc = ([], 2, 0) := by
  rw [rdTexts, if_pos rfl, if_pos h]

theorem rdTexts_bad {f : Nat} {bs : List UInt8} {acc : List (List UInt8)} (h : bs ≠ []) (hn : textAt bs = none) : rdTexts (f + 1) bs acc = ([], 5, (acc.length : Int)) := by
  rw [rdTexts, if_neg h, hn]

theorem rdTexts_step {f : Nat} {bs t : List UInt8} {acc : List (List UInt8)} {k : Nat} (h : bs ≠ []) (hn : textAt bs = some (t, k)) : rdTexts (f + 1) bs acc = rdTexts f (bs.drop k) (acc ++ [t]) := by
  rw [rdTexts, if_neg h, hn]

theorem sc_snoc (l : List (List UInt8)) (x : List UInt8) : sc l ++ [.string ⟨x.toArray⟩] = sc (l ++ [x]) := by rw [sc_append]; rfl
theorem Try.info9 : (Try.prog.info? 9).map (fun i => (i.zero, i.size, i.bytes)) = some (some (.string ⟨#[]⟩), 1, 16) := by kernel_rfl


end Go.Proofs.Ytlebbkbbmgmmjad

/-
  The walk over wire.Texts.
-/
namespace Go.Proofs.Ytlebbkbbmgmmjad
open Go.RowKit

/-- What Texts comes to, from what is left on. -/
def textsGo : List (List UInt8) → List UInt8 → List UInt8 × Int × Int
  | [], acc => (acc, 0, 0)
  | t :: ts, acc => if 60000 < acc.length + (encN t.length).length + t.length then ([], 9, 0) else textsGo ts (acc ++ encN t.length ++ t)

def textsR (ss : List (List UInt8)) : List UInt8 × Int × Int := if 1000 < ss.length then ([], 2, 0) else textsGo ss []
theorem textsGo_step (zs : List (List UInt8)) (k : Nat) (acc : List UInt8) (h : k < zs.length) (h1 : acc.length + (encN zs[k].length).length + zs[k].length ≤ 60000) :
    textsGo (zs.drop (k + 1)) (acc ++ encN zs[k].length ++ zs[k]) = textsGo (zs.drop k) acc := by
  rw [drop_cons zs k h, textsGo, if_neg (by omega)]

theorem textsGo_bad (zs : List (List UInt8)) (k : Nat) (acc : List UInt8) (h : k < zs.length) (h1 : 60000 < acc.length + (encN zs[k].length).length + zs[k].length) : textsGo (zs.drop k) acc = ([], 9, 0) := by
  rw [drop_cons zs k h, textsGo, if_pos h1]

theorem textsGo_end (zs : List (List UInt8)) (k : Nat) (acc : List UInt8) (h : zs.length ≤ k) : textsGo (zs.drop k) acc = (acc, 0, 0) := by
  rw [List.drop_eq_nil_of_le h, textsGo]


end Go.Proofs.Ytlebbkbbmgmmjad

/-
  There and back: numbers and texts that are written are read as they were; plain mathematics.
-/
namespace Go.Proofs.Ytlebbkbbmgmmjad

theorem enc_len_pow : ∀ (g j m : Nat), m < 128 ^ (j + 1) → (enc g m).length ≤ j + 1
  | 0, _, _, _ => by simp [enc]
  | g + 1, j, m, h => by
    rw [enc]
    split
    · simp
    · cases j with
      | zero => simp at h; omega
      | succ j =>
        have := enc_len_pow g j (m / 128) (by rw [Nat.pow_succ] at h; omega)
        simp; omega

/-- What is written is read. -/
theorem readNum_enc (r : List UInt8) : ∀ (g m i acc f : Nat), m < 128 ^ (g + 1) → (enc g m).length ≤ f → (0 < m ∨ i = 0) → acc + m * 128 ^ i ≤ 1000000000 →
    readNum f i acc (enc g m ++ r) = some (acc + m * 128 ^ i, i + (enc g m).length)
  | g, m, i, acc, 0, _, hf, _, _ => by have := enc_pos g m; omega
  | g, m, i, acc, f + 1, hm, hf, h0, hle => by
    by_cases h : m < 128
    · rw [enc_small g m h]
      have hx : (UInt8.ofNat m).toNat = m := u8_ofNat_toNat m (by omega)
      have hmm : m % 128 = m := by omega
      have := @readNum_some f i acc (UInt8.ofNat m) r (by omega) (by rw [hx, hmm]; omega)
      rw [hx, hmm] at this
      simpa using this
    · cases g with
      | zero => simp at hm; omega
      | succ g =>
        rw [enc_big g m (by omega)] at hf ⊢
        have hx : (UInt8.ofNat (m % 128 + 128)).toNat = m % 128 + 128 := u8_ofNat_toNat _ (by omega)
        rw [List.cons_append, readNum_more (by omega), hx]
        have hmm : (m % 128 + 128) % 128 = m % 128 := by omega
        have he : acc + m % 128 * 128 ^ i + m / 128 * 128 ^ (i + 1) = acc + m * 128 ^ i := by
          rw [Nat.pow_succ, Nat.add_assoc, show m / 128 * (128 ^ i * 128) = (m / 128 * 128) * 128 ^ i by rw [Nat.mul_comm (128 ^ i) 128, Nat.mul_assoc], ← Nat.add_mul]
          congr 2
          omega
        have := readNum_enc r g (m / 128) (i + 1) (acc + m % 128 * 128 ^ i) f (by rw [Nat.pow_succ] at hm; omega) (by simpa using hf) (.inl (by omega)) (by omega)
        rw [hmm, this, he]
        simp
        omega

theorem numAt_enc (n : Nat) (r : List UInt8) (h : n ≤ 1000000000) : numAt (encN n ++ r) = some (n, (encN n).length) := by
  have := readNum_enc r 9 n 0 0 5 (by omega) (enc_len_pow 9 4 n (by omega)) (.inr rfl) (by omega)
  simpa [numAt, encN] using this

/-- What is read is written. -/
theorem readNum_back : ∀ (f i acc : Nat) (bs : List UInt8) (n k : Nat), readNum f i acc bs = some (n, k) →
    ∃ m, n = acc + m * 128 ^ i ∧ (0 < i → 0 < m) ∧ ∀ g, f ≤ g + 1 → bs.take (k - i) = enc g m
  | 0, _, _, _, _, _, h => by simp [readNum] at h
  | f + 1, _, _, [], _, _, h => by simp [readNum] at h
  | f + 1, i, acc, x :: r, n, k, h => by
    by_cases hx : 128 ≤ x.toNat
    · rw [readNum_more hx] at h
      obtain ⟨m, h1, h2, h3⟩ := readNum_back f (i + 1) _ r n k h
      have hl := readNum_len f (i + 1) _ r n k h
      have hxl := x.toNat_lt
      have hm := h2 (by omega)
      refine ⟨x.toNat % 128 + 128 * m, ?_, fun _ => by omega, fun g hg => ?_⟩
      · rw [h1, Nat.pow_succ, Nat.add_mul, Nat.add_assoc]
        congr 2
        rw [Nat.mul_comm (128 ^ i) 128, ← Nat.mul_assoc, Nat.mul_comm m 128]
      · cases g with
        | zero =>
          have : f = 0 := by omega
          subst this
          simp [readNum] at h
        | succ g =>
          rw [enc_big g _ (by omega), show k - i = (k - (i + 1)) + 1 by omega, List.take_succ_cons, h3 g (by omega)]
          congr 1
          · apply UInt8.toNat_inj.1
            rw [u8_ofNat_toNat _ (by omega)]
            omega
          · congr 1
            omega
    · by_cases hb : (x.toNat = 0 ∧ 0 < i) ∨ 1000000000 < acc + x.toNat % 128 * 128 ^ i
      · rw [readNum_none (by omega) hb] at h
        cases h
      · rw [readNum_some (by omega) hb] at h
        simp only [Option.some.injEq, Prod.mk.injEq] at h
        obtain ⟨rfl, rfl⟩ := h
        refine ⟨x.toNat, ?_, fun hi => by omega, fun g _ => ?_⟩
        · rw [show x.toNat % 128 = x.toNat by omega]
        · rw [enc_small g _ (by omega), show i + 1 - i = 1 by omega]
          simp

theorem numAt_back {bs : List UInt8} {n k : Nat} (h : numAt bs = some (n, k)) : bs.take k = encN n := by
  obtain ⟨m, h1, _, h3⟩ := readNum_back 5 0 0 bs n k h
  have := h3 9 (by omega)
  simp at h1
  subst h1
  simpa [encN] using this

/-! ### numbers -/
def flat (zs : List Int) : List UInt8 := zs.flatMap fun z => encN z.toNat
def okNum (z : Int) : Prop := 0 ≤ z ∧ z ≤ 1000000000
theorem numsGo_of : ∀ (zs : List Int) (k : Nat) (acc : List UInt8), (∀ z ∈ zs, okNum z) → numsGo zs k acc = (acc ++ flat zs, 0, 0)
  | [], _, acc, _ => by simp [numsGo, flat]
  | z :: zs, k, acc, h => by
    have hz := h z (by simp)
    unfold okNum at hz
    rw [numsGo, if_neg (by omega), numsGo_of zs _ _ (fun y hy => h y (by simp [hy]))]
    simp [flat]

theorem numsGo_ok : ∀ (zs : List Int) (k : Nat) (acc : List UInt8), (numsGo zs k acc).2.1 = 0 → ∀ z ∈ zs, okNum z
  | [], _, _, _ => by simp
  | z :: zs, k, acc, h => by
    rw [numsGo] at h
    split at h
    · simp at h
    · intro y hy
      rcases List.mem_cons.1 hy with rfl | hy
      · unfold okNum; omega
      · exact numsGo_ok zs _ _ h y hy

theorem flat_len : ∀ (zs : List Int), (∀ z ∈ zs, okNum z) → zs.length ≤ (flat zs).length ∧ (flat zs).length ≤ 5 * zs.length
  | [], _ => by simp [flat]
  | z :: zs, h => by
    have ih := flat_len zs (fun y hy => h y (by simp [hy]))
    have hz := h z (by simp)
    unfold okNum at hz
    have h1 := enc_pos 9 z.toNat
    have h2 := enc_len_pow 9 4 z.toNat (by omega)
    have e : (flat (z :: zs)).length = (encN z.toNat).length + (flat zs).length := by simp [flat]
    simp only [encN] at e
    simp only [List.length_cons]
    omega

theorem rdNums_flat : ∀ (zs : List Int) (f : Nat) (acc : List Int), (∀ z ∈ zs, okNum z) → zs.length ≤ f → rdNums (f + 1) (flat zs) acc = if 1000 < acc.length + zs.length then ([], 2, 0) else (acc ++ zs, 0, 0)
  | [], f, acc, _, _ => by
    have e : flat [] = [] := rfl
    rw [e]
    by_cases h : 1000 < acc.length
    · rw [rdNums_many h, if_pos (by simpa using h)]
    · rw [rdNums_end (by omega), if_neg (by simpa using h)]; simp
  | z :: zs, 0, acc, _, h => by simp at h
  | z :: zs, f + 1, acc, h, hf => by
    have hz := h z (by simp)
    unfold okNum at hz
    have e : flat (z :: zs) = encN z.toNat ++ flat zs := by simp [flat]
    have hne : encN z.toNat ++ flat zs ≠ [] := by
      intro h0
      have := enc_pos 9 z.toNat
      have h1 := congrArg List.length h0
      simp only [encN, List.length_append, List.length_nil] at h1
      omega
    rw [e, rdNums_step hne (numAt_enc _ _ (by omega)), List.drop_left, rdNums_flat zs f _ (fun y hy => h y (by simp [hy])) (by simpa using hf)]
    have : ((z.toNat : Nat) : Int) = z := by omega
    rw [this]
    simp [Nat.add_assoc, Nat.add_comm 1]

theorem nums_there {zs : List Int} (h : (numsR zs).2.1 = 0) : readNumsR (numsR zs).1 = (zs, 0, 0) := by
  unfold numsR at h ⊢
  by_cases hb : 1000 < zs.length
  · rw [if_pos hb] at h; simp at h
  · rw [if_neg hb] at h ⊢
    have hok := numsGo_ok zs 0 [] h
    have hl := flat_len zs hok
    rw [numsGo_of zs 0 [] hok]
    simp only [List.nil_append]
    rw [readNumsR, if_neg (by omega), rdNums_flat zs _ [] hok hl.1, if_neg (by simpa using hb)]
    simp

theorem rdNums_back : ∀ (f : Nat) (bs : List UInt8) (acc : List Int), bs.length ≤ f → (rdNums (f + 1) bs acc).2.1 = 0 → ∃ zs, rdNums (f + 1) bs acc = (acc ++ zs, 0, 0) ∧ bs = flat zs ∧ (∀ z ∈ zs, okNum z) ∧ acc.length + zs.length ≤ 1000
  | f, [], acc, _, h => by
    by_cases hb : 1000 < acc.length
    · rw [rdNums_many hb] at h; simp at h
    · exact ⟨[], by rw [rdNums_end (by omega)]; simp, rfl, by simp, by simp; omega⟩
  | 0, b :: bs, acc, hf, _ => by simp at hf
  | f + 1, b :: bs, acc, hf, h => by
    cases hn : numAt (b :: bs) with
    | none => rw [rdNums_bad (by simp) hn] at h; simp at h
    | some p =>
      obtain ⟨n, k⟩ := p
      have hl := numAt_len hn
      rw [rdNums_step (by simp) hn] at h ⊢
      obtain ⟨zs, h1, h2, h3, h4⟩ := rdNums_back f ((b :: bs).drop k) (acc ++ [(n : Int)]) (by rw [List.length_drop]; omega) h
      refine ⟨(n : Int) :: zs, ?_, ?_, ?_, ?_⟩
      · rw [h1]; simp
      · have e : flat ((n : Int) :: zs) = encN n ++ flat zs := by simp [flat]
        rw [e, ← h2, ← numAt_back hn, List.take_append_drop]
      · intro z hz
        rcases List.mem_cons.1 hz with rfl | hz
        · unfold okNum; omega
        · exact h3 z hz
      · simp at h4 ⊢; omega

theorem nums_back {bs : List UInt8} (h : (readNumsR bs).2.1 = 0) : numsR (readNumsR bs).1 = (bs, 0, 0) := by
  unfold readNumsR at h ⊢
  by_cases hb : 60000 < bs.length
  · rw [if_pos hb] at h; simp at h
  · rw [if_neg hb] at h ⊢
    obtain ⟨zs, h1, h2, h3, h4⟩ := rdNums_back bs.length bs [] (Nat.le_refl _) h
    rw [h1]
    simp only [List.nil_append]
    rw [numsR, if_neg (by simpa using h4), numsGo_of zs 0 [] h3, ← h2]
    rfl

/-! ### texts -/
def tflat (ss : List (List UInt8)) : List UInt8 := ss.flatMap fun s => encN s.length ++ s
theorem tflat_cons (s : List UInt8) (ss : List (List UInt8)) : tflat (s :: ss) = encN s.length ++ s ++ tflat ss := by simp [tflat]
theorem textsGo_of : ∀ (ss : List (List UInt8)) (acc : List UInt8), acc.length + (tflat ss).length ≤ 60000 → textsGo ss acc = (acc ++ tflat ss, 0, 0)
  | [], acc, _ => by simp [textsGo, tflat]
  | s :: ss, acc, h => by
    rw [tflat_cons] at h ⊢
    simp only [List.length_append] at h
    rw [textsGo, if_neg (by omega), textsGo_of ss _ (by simp only [List.length_append]; omega)]
    simp

theorem textsGo_much : ∀ (ss : List (List UInt8)) (acc : List UInt8), acc.length ≤ 60000 → 60000 < acc.length + (tflat ss).length → textsGo ss acc = ([], 9, 0)
  | [], acc, h0, h => by simp [tflat] at h; omega
  | s :: ss, acc, h0, h => by
    rw [tflat_cons] at h
    simp only [List.length_append] at h
    rw [textsGo]
    split
    · rfl
    · exact textsGo_much ss _ (by simp only [List.length_append]; omega) (by simp only [List.length_append]; omega)

theorem textAt_enc (s r : List UInt8) (h : s.length ≤ 1000000000) : textAt (encN s.length ++ s ++ r) = some (s, (encN s.length).length + s.length) := by
  rw [textAt, List.append_assoc, numAt_enc _ _ h]
  simp only [List.length_append]
  rw [if_neg (by omega), List.drop_left, List.take_left]

theorem tflat_len : ∀ (ss : List (List UInt8)), ss.length ≤ (tflat ss).length ∧ ∀ s ∈ ss, s.length ≤ (tflat ss).length
  | [] => by simp [tflat]
  | s :: ss => by
    have ih := tflat_len ss
    have h1 := enc_pos 9 s.length
    have e : (tflat (s :: ss)).length = (encN s.length).length + s.length + (tflat ss).length := by rw [tflat_cons]; simp; omega
    simp only [encN] at e
    refine ⟨by simp only [List.length_cons]; omega, fun t ht => ?_⟩
    rcases List.mem_cons.1 ht with rfl | ht
    · omega
    · have := ih.2 t ht; omega

theorem rdTexts_flat : ∀ (ss : List (List UInt8)) (f : Nat) (acc : List (List UInt8)), (∀ s ∈ ss, s.length ≤ 1000000000) → ss.length ≤ f → rdTexts (f + 1) (tflat ss) acc = if 1000 < acc.length + ss.length then ([], 2, 0) else (acc ++ ss, 0, 0)
  | [], f, acc, _, _ => by
    have e : tflat [] = [] := rfl
    rw [e]
    by_cases h : 1000 < acc.length
    · rw [rdTexts_many h, if_pos (by simpa using h)]
    · rw [rdTexts_end (by omega), if_neg (by simpa using h)]; simp
  | z :: zs, 0, acc, _, h => by simp at h
  | s :: ss, f + 1, acc, h, hf => by
    have hs := h s (by simp)
    have hne : encN s.length ++ s ++ tflat ss ≠ [] := by
      intro h0
      have := enc_pos 9 s.length
      have h1 := congrArg List.length h0
      simp only [encN, List.length_append, List.length_nil] at h1
      omega
    rw [tflat_cons, rdTexts_step hne (textAt_enc s _ hs), ← List.length_append, List.drop_left, rdTexts_flat ss f _ (fun y hy => h y (by simp [hy])) (by simpa using hf)]
    simp [Nat.add_assoc, Nat.add_comm 1]

theorem texts_there {ss : List (List UInt8)} (h : (textsR ss).2.1 = 0) : readTextsR (textsR ss).1 = (ss, 0, 0) := by
  unfold textsR at h ⊢
  by_cases hb : 1000 < ss.length
  · rw [if_pos hb] at h; simp at h
  · rw [if_neg hb] at h ⊢
    by_cases hm : (tflat ss).length ≤ 60000
    · have hl := tflat_len ss
      rw [textsGo_of ss [] (by simpa using hm)]
      simp only [List.nil_append]
      rw [readTextsR, if_neg (by omega), rdTexts_flat ss _ [] (fun s hs => by have := hl.2 s hs; omega) hl.1, if_neg (by simpa using hb)]
      simp
    · rw [textsGo_much ss [] (by simp) (by simp; omega)] at h
      simp at h

theorem textAt_back {bs t : List UInt8} {m : Nat} (h : textAt bs = some (t, m)) : bs.take m = encN t.length ++ t ∧ 0 < m ∧ m ≤ bs.length := by
  obtain ⟨n, k, h1, h2, h3, rfl, rfl⟩ := textAt_some h
  have hl : ((bs.drop k).take n).length = n := by simp; omega
  refine ⟨?_, by omega, by omega⟩
  rw [hl, ← numAt_back h3, List.take_add]

theorem rdTexts_back : ∀ (f : Nat) (bs : List UInt8) (acc : List (List UInt8)), bs.length ≤ f → (rdTexts (f + 1) bs acc).2.1 = 0 → ∃ ss, rdTexts (f + 1) bs acc = (acc ++ ss, 0, 0) ∧ bs = tflat ss ∧ acc.length + ss.length ≤ 1000
  | f, [], acc, _, h => by
    by_cases hb : 1000 < acc.length
    · rw [rdTexts_many hb] at h; simp at h
    · exact ⟨[], by rw [rdTexts_end (by omega)]; simp, rfl, by simp; omega⟩
  | 0, b :: bs, acc, hf, _ => by simp at hf
  | f + 1, b :: bs, acc, hf, h => by
    cases hn : textAt (b :: bs) with
    | none => rw [rdTexts_bad (by simp) hn] at h; simp at h
    | some p =>
      obtain ⟨t, m⟩ := p
      have hl := textAt_back hn
      rw [rdTexts_step (by simp) hn] at h ⊢
      obtain ⟨ss, h1, h2, h4⟩ := rdTexts_back f ((b :: bs).drop m) (acc ++ [t]) (by rw [List.length_drop]; omega) h
      refine ⟨t :: ss, ?_, ?_, ?_⟩
      · rw [h1]; simp
      · rw [tflat_cons, ← h2, ← hl.1, List.take_append_drop]
      · simp at h4 ⊢; omega

theorem texts_back {bs : List UInt8} (h : (readTextsR bs).2.1 = 0) : textsR (readTextsR bs).1 = (bs, 0, 0) ∧ ∀ s ∈ (readTextsR bs).1, s.length ≤ 60000 := by
  unfold readTextsR at h ⊢
  by_cases hb : 60000 < bs.length
  · rw [if_pos hb] at h; simp at h
  · rw [if_neg hb] at h ⊢
    obtain ⟨ss, h1, h2, h4⟩ := rdTexts_back bs.length bs [] (Nat.le_refl _) h
    rw [h1]
    simp only [List.nil_append]
    have hl := tflat_len ss
    rw [← h2] at hl
    refine ⟨?_, fun s hs => by have := hl.2 s hs; omega⟩
    rw [textsR, if_neg (by simpa using h4), textsGo_of ss [] (by rw [← h2]; simpa using hb), ← h2]
    rfl

end Go.Proofs.Ytlebbkbbmgmmjad

/-
  Cells, and lists of cells, as values and in memory. Nothing of a program stands here.
-/
namespace Go.Proofs.Ytlebbkbbmgmmjad
open Go.RowKit

theorem below_alloc' (w : World) (o : Obj) : Below w.heap.size w (w.alloc o) := (Below.refl _ _).alloc (Nat.le_refl _) o

/-- A cell of a table. -/
structure Cl where
  row : ByteArray
  col : ByteArray
  time : Int
  gone : Bool
  val : ByteArray

/-- A cell's five places in memory. -/
def cv (c : Cl) : List Value := [.string c.row, .string c.col, .int .i64 c.time, .bool c.gone, .string c.val]
/-- A cell as a value. -/
def cA (c : Cl) : Value := .agg #[.string c.row, .string c.col, .int .i64 c.time, .bool c.gone, .string c.val]
/-- A list's places in memory. -/
def cc (cs : List Cl) : List Value := cs.flatMap cv
/-- The cell without anything. -/
def zeroC : Cl := ⟨⟨#[]⟩, ⟨#[]⟩, 0, false, ⟨#[]⟩⟩

theorem cc_nil : cc [] = [] := rfl
theorem cc_cons (c : Cl) (cs : List Cl) : cc (c :: cs) = cv c ++ cc cs := rfl
theorem cc_append (a b : List Cl) : cc (a ++ b) = cc a ++ cc b := by simp [cc]
theorem cc_length : ∀ cs : List Cl, (cc cs).length = cs.length * 5
  | [] => rfl
  | c :: cs => by rw [cc_cons, List.length_append, cc_length cs]; simp [cv]; omega

theorem cc_one (cs : List Cl) : ∀ u ∈ cc cs, u.oneCell' = true := by
  intro u hu
  simp only [cc, List.mem_flatMap] at hu
  obtain ⟨c, _, hu⟩ := hu
  simp only [cv, List.mem_cons, List.not_mem_nil, or_false] at hu
  rcases hu with rfl | rfl | rfl | rfl | rfl <;> rfl

theorem cc_get : ∀ (cs : List Cl) (j : Nat) (h : j < cs.length) (k : Nat), k < 5 → (cc cs)[j * 5 + k]? = (cv cs[j])[k]?
  | [], j, h, _, _ => by simp at h
  | c :: cs, 0, h, k, hk => by
    rw [cc_cons, List.getElem?_append_left (by simp [cv]; omega)]
    simp
  | c :: cs, j + 1, h, k, hk => by
    rw [cc_cons, List.getElem?_append_right (by simp [cv]; omega)]
    have ih := cc_get cs j (by simpa using h) k hk
    have e : (j + 1) * 5 + k - (cv c).length = j * 5 + k := by simp [cv]; omega
    rw [e, ih]
    simp

theorem cc_drop : ∀ (cs : List Cl) (k : Nat), (cc cs).drop (k * 5) = cc (cs.drop k)
  | cs, 0 => by simp
  | [], k + 1 => by simp [cc]
  | c :: cs, k + 1 => by
    rw [cc_cons, List.drop_append, List.drop_of_length_le (by simp [cv]; omega)]
    simp only [List.drop_succ_cons, List.nil_append]
    rw [← cc_drop cs k]
    congr 1
    simp [cv]
    omega

theorem cc_take : ∀ (cs : List Cl) (k : Nat), (cc cs).take (k * 5) = cc (cs.take k)
  | cs, 0 => by simp [cc]
  | [], k + 1 => by simp [cc]
  | c :: cs, k + 1 => by
    rw [cc_cons, List.take_append, List.take_of_length_le (by simp [cv]; omega)]
    simp only [List.take_succ_cons, cc_cons]
    rw [← cc_take cs k]
    congr 2
    simp [cv]
    omega

/-- The slice v reads as the cells cs. -/
def RdC (w : World) (v : Value) (cs : List Cl) : Prop :=
  ∃ ao cap, v = .slice ao cs.length cap ∧ cs.length ≤ cap ∧ cap ≤ maxLen ∧ (ao = none → cap = 0) ∧ ∀ a, ao = some a → ∀ j u, (cc cs)[j]? = some u → w.cell? (a.add j) = some u

theorem RdC.nil (w : World) : RdC w (.slice none 0 0) [] := ⟨none, 0, rfl, Nat.le_refl _, Nat.zero_le _, fun _ => rfl, fun a h => by cases h⟩

theorem RdC.ofOwns {w : World} {base : Nat} {e : TypeId} {v : Value} {n : Nat} {cs : List Cl} (h : w.ownsRow base e 5 v n (cc cs)) : RdC w v cs := by
  have hl : cs.length = n := by have := h.1; rw [cc_length] at this; omega
  rcases h.2 with ⟨rfl, hn⟩ | ⟨g, cap, cur, rfl, hb, hg, hnc, hcm, hcs, htake⟩
  · have : cs = [] := List.eq_nil_of_length_eq_zero (by omega)
    subst this
    exact RdC.nil w
  · refine ⟨some ⟨g, 0, none⟩, cap, by rw [hl], (by omega), hcm, (fun h => by cases h), fun a ha j u hu => ?_⟩
    cases ha
    exact h.cells (by simp [Value.ownBlock]) j u hu

theorem RdC.below {w w' : World} {v : Value} {cs : List Cl} (h : RdC w v cs) (hb : Below w.heap.size w w') : RdC w' v cs := by
  obtain ⟨ao, cap, hv, h1, h2, h3, h4⟩ := h
  refine ⟨ao, cap, hv, h1, h2, h3, fun a ha j u hu => ?_⟩
  have hc := h4 a ha j u hu
  have hlt := World.block_lt_of_cell? w _ hc
  rw [hb.cell hlt]
  exact hc

theorem RdC.drew {w : World} {v : Value} {cs : List Cl} (h : RdC w v cs) : RdC w.drew v cs := h
theorem RdC.drewN {w : World} {v : Value} {cs : List Cl} (h : RdC w v cs) (n : Nat) : RdC (w.drewN n) v cs := h
theorem RdC.alloc {w : World} {v : Value} {cs : List Cl} (h : RdC w v cs) (o : Obj) : RdC (w.alloc o) v cs := h.below ((Below.refl _ _).alloc (Nat.le_refl _) o)

theorem RdC.shape {w : World} {v : Value} {cs : List Cl} (h : RdC w v cs) : ∃ ao cap, v = .slice ao cs.length cap ∧ cs.length ≤ cap ∧ cap ≤ maxLen := by
  obtain ⟨ao, cap, hv, h1, h2, _⟩ := h
  exact ⟨ao, cap, hv, h1, h2⟩

/-- Where the cells lie, five places each. -/
theorem RdC.open {w : World} {v : Value} {cs : List Cl} (h : RdC w v cs) :
    ∃ ao cap, v = .slice ao cs.length cap ∧ cs.length ≤ cap ∧ cap ≤ maxLen ∧ ∀ j, (hj : j < cs.length) → ∃ b off, ao = some ⟨b, off, none⟩ ∧ b < w.heap.size ∧ ∀ i, (hi : i < cs.length) → ∀ k, k < 5 → w.cell? ⟨b, off + i * 5 + k, none⟩ = (cv cs[i])[k]? := by
  obtain ⟨ao, cap, hv, h1, h2, h3, h4⟩ := h
  refine ⟨ao, cap, hv, h1, h2, fun j hj => ?_⟩
  cases ao with
  | none => have := h3 rfl; omega
  | some a =>
    have hl : 0 < (cc cs).length := by rw [cc_length]; omega
    have h0 := h4 a rfl 0 (cc cs)[0] (by simp)
    obtain ⟨b, o, rfl⟩ := add_spot h0
    refine ⟨b, o, rfl, World.block_lt_of_cell? w _ h0, fun i hi k hk => ?_⟩
    have hg := cc_get cs i hi k hk
    have hs : (cv cs[i])[k]? = some ((cv cs[i])[k]'(by simp [cv]; omega)) := List.getElem?_eq_getElem _
    have := h4 _ rfl (i * 5 + k) _ (hg.trans hs)
    rw [Addr.add_lit] at this
    rw [Nat.add_assoc, this, hs]

/-- The five places of one cell. -/
structure At (w : World) (b off : Nat) (c : Cl) : Prop where
  c0 : w.cell? ⟨b, off, none⟩ = some (.string c.row)
  c1 : w.cell? ⟨b, off + 1, none⟩ = some (.string c.col)
  c2 : w.cell? ⟨b, off + 2, none⟩ = some (.int .i64 c.time)
  c3 : w.cell? ⟨b, off + 3, none⟩ = some (.bool c.gone)
  c4 : w.cell? ⟨b, off + 4, none⟩ = some (.string c.val)

theorem At.lt {w : World} {b off : Nat} {c : Cl} (h : At w b off c) : b < w.heap.size := World.block_lt_of_cell? w _ h.c0

theorem At.below {w w' : World} {b off : Nat} {c : Cl} (h : At w b off c) (hb : Below w.heap.size w w') : At w' b off c := by
  have hl := h.lt
  exact ⟨(hb.cell hl).trans h.c0, (hb.cell hl).trans h.c1, (hb.cell hl).trans h.c2, (hb.cell hl).trans h.c3, (hb.cell hl).trans h.c4⟩

theorem RdC.at {w : World} {v : Value} {cs : List Cl} (h : RdC w v cs) :
    ∃ ao cap, v = .slice ao cs.length cap ∧ cs.length ≤ cap ∧ cap ≤ maxLen ∧ ∀ j, (hj : j < cs.length) → ∃ b off, ao = some ⟨b, off, none⟩ ∧ b < w.heap.size ∧ ∀ i, (hi : i < cs.length) → At w b (off + i * 5) cs[i] := by
  obtain ⟨ao, cap, hv, h1, h2, h3⟩ := h.open
  refine ⟨ao, cap, hv, h1, h2, fun j hj => ?_⟩
  obtain ⟨b, off, ha, hb, hc⟩ := h3 j hj
  exact ⟨b, off, ha, hb, fun i hi => ⟨hc i hi 0 (by omega), hc i hi 1 (by omega), hc i hi 2 (by omega), hc i hi 3 (by omega), hc i hi 4 (by omega)⟩⟩

theorem RdC.setNew {w : World} {v : Value} {cs : List Cl} {B : Nat} (h : RdC w v cs) (hn : New B v) {p : Addr} (hp : p.block < B) (u : Value) : RdC (w.setCell p u) v cs := by
  obtain ⟨ao, cap, hv, h1, h2, h3, h4⟩ := h
  refine ⟨ao, cap, hv, h1, h2, h3, fun a ha j x hx => ?_⟩
  have hc := h4 a ha j x hx
  have e : (a.add j).block = a.block := by unfold Addr.add; split <;> rfl
  have hb : B ≤ a.block := hn a _ _ (by rw [hv, ha])
  rw [← hc]
  exact World.cell?_of_block (heap_setCell_other w p _ u (by rw [e]; omega))

theorem RdC.new (w : World) (c : Cl) (e : TypeId) : RdC (w.alloc (.cells #[.string c.row, .string c.col, .int .i64 c.time, .bool c.gone, .string c.val] e)) (.slice (some ⟨w.heap.size, 0, none⟩) 1 1) [c] :=
  ⟨some ⟨w.heap.size, 0, none⟩, 1, rfl, Nat.le_refl _, by decide, (fun h => by cases h), fun a ha j v hv => by
    cases ha
    rw [cc_cons, cc_nil, List.append_nil] at hv
    rw [Addr.add_lit, Nat.zero_add, ← hv]
    have := cell_of_row (w.alloc (.cells #[.string c.row, .string c.col, .int .i64 c.time, .bool c.gone, .string c.val] e)) w.heap.size j _ e (0, 0) (heap_alloc_new w _)
    rw [this]
    simp [cv]⟩

/-- 'append(out, xs...)' of cells, out the call's own. -/
theorem wpList_append_rdC {P : Program} {w : World} {ops : Array Oper} {rest : List Oper} {o : Oper} {a : Act} {Q : Exit → Act → World → Prop} {s x : Operand} {t : TypeId} {base : Nat} {e : TypeId} {z : Value} {bytes : Nat}
    {v : Value} {n : Nat} {cs : List Cl} {vx : Value} {news : List Cl}
    (hown : w.ownsRow base e 5 v n (cc cs)) (hrd : RdC w vx news)
    (ht : P.underlying t = some (.slice e)) (hinf : (P.info? e).map (fun i => (i.zero, i.size, i.bytes)) = some (some z, 5, bytes)) (hzs : z.cells.size = 5)
    (hgd : o.guard = none) (ho : o.op = .call { callee := .builtin .append, args := #[s, x], argTypes := #[t, t] })
    (hs : a.eval s = v) (hx : a.eval x = vx)
    (h63 : n + news.length ≤ 1000000000) (hbytes : bytes ≤ 64) (hbase : base ≤ w.heap.size)
    (h : ∀ v' w', w'.ownsRow base e 5 v' (n + news.length) (cc (cs ++ news)) → Below base w w' → w.grownBy w' v.ownBlock → wpList P ops Q rest (a.put o.dst v') w') : wpList P ops Q (o :: rest) a w := by
  obtain ⟨i, hi, hz, hsize, hby⟩ := info_parts hinf
  have hlt := hown.lt
  have hbytes' : (n + news.length) * bytes ≤ 1000000000 * 64 := Nat.mul_le_mul h63 hbytes
  obtain ⟨ao, cap, hvx, h2, h3, h4, h5⟩ := hrd
  cases ao with
  | none =>
    have hc := h4 rfl
    have hnews : news = [] := List.eq_nil_of_length_eq_zero (by omega)
    subst hnews
    subst hc
    refine wpList_append_own_none hgd s x t ho base e i 5 ht hi v n (cc cs) hs hown (hx.trans hvx) ?_
    exact h v w (by simpa using hown) (Below.refl _ _) (World.grownBy.refl _ _)
  | some ad =>
    refine wpList_append_own w hgd s x t ho base e i z 5 bytes ht hi hz hsize hby hzs (by decide) v n (cc cs) hs hown ad news.length cap (cc news) (hx.trans hvx) (cc_length _) (h5 ad rfl) (cc_one _) (by simp [maxLen]; omega) (by omega) hbase ?_
    intro v' w' ho' hg' _
    rw [← cc_append] at ho'
    exact h v' w' ho' ((Below.refl _ _).grown hg' hbase (fun k hk => (hlt k hk).1)) hg'

/-- 'append(out, c)' of a cell that was laid in a block of its own just ahead. -/
theorem wpList_append_oneC {P : Program} {w : World} {c : Cl} {ops : Array Oper} {rest : List Oper} {o : Oper} {a : Act} {Q : Exit → Act → World → Prop} {s x : Operand} {t : TypeId} {base : Nat} {e : TypeId} {z : Value} {bytes : Nat}
    {v : Value} {n : Nat} {cs : List Cl}
    (hown : w.ownsRow base e 5 v n (cc cs))
    (ht : P.underlying t = some (.slice e)) (hinf : (P.info? e).map (fun i => (i.zero, i.size, i.bytes)) = some (some z, 5, bytes)) (hzs : z.cells.size = 5)
    (hgd : o.guard = none) (ho : o.op = .call { callee := .builtin .append, args := #[s, x], argTypes := #[t, t] })
    (hs : a.eval s = v) (hx : a.eval x = .slice (some ⟨w.heap.size, 0, none⟩) 1 1)
    (h63 : n ≤ 100000000) (hbytes : bytes ≤ 64) (hbase : base ≤ w.heap.size)
    (h : ∀ v' w', w'.ownsRow base e 5 v' (n + 1) (cc (cs ++ [c])) → Below base w w' → w.grownBy w' v.ownBlock → wpList P ops Q rest (a.put o.dst v') w') : wpList P ops Q (o :: rest) a (w.alloc (.cells #[.string c.row, .string c.col, .int .i64 c.time, .bool c.gone, .string c.val] e)) := by
  refine wpList_append_rdC (hown.alloc _) (RdC.new _ c _) ht hinf hzs hgd ho hs hx (by simp; omega) hbytes (by simp; omega) ?_
  intro v' w' h2 h3 h4
  refine h v' w' h2 (((Below.refl _ _).alloc hbase _).trans h3) ⟨h4.os, h4.tape, h4.output, ?_, fun k hk hne => ?_⟩
  · have := h4.size; simp at this; omega
  · rw [h4.block k (by simp; omega) hne, Below.heap_alloc _ _ _ hk]

theorem RdC.hereD {w : World} {ao : Option Addr} {n cap : Nat} {cs : List Cl} (h : RdC w (.slice ao n cap) cs) {i : Nat} {c : Cl} (hi : cs[i]? = some c) :
    ∃ b off, ao = some ⟨b, off, none⟩ ∧ b < w.heap.size ∧ At w b (off + i * 5) c := by
  obtain ⟨ao', cap', hv, _, _, hat⟩ := h.at
  simp only [Value.slice.injEq] at hv
  obtain ⟨rfl, _, _⟩ := hv
  obtain ⟨hl, e⟩ := List.getElem?_eq_some_iff.1 hi
  obtain ⟨b, off, ha, hb, hc⟩ := hat i hl
  exact ⟨b, off, ha, hb, e ▸ hc i hl⟩

end Go.Proofs.Ytlebbkbbmgmmjad
